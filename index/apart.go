package index

// Apart returns as many of some sets as possible of which no two have an index in common; of several
// such lists the first one. The sets are in ascending order, and none of them is empty.
func Apart(sets []Set) []Set {
	var free Set
	for _, s := range sets {
		free |= s
	}
	most := mostOf(sets)
	var apart []Set
	for _, s := range sets {
		if s.IsWithin(free) && 1+most(free&^s) == most(free) {
			apart = append(apart, s)
			free &^= s
		}
	}
	return apart
}

// mostOf returns a function that tells how many of the sets have their places in a free one, if no
// two of them have an index in common. It keeps what it has found out, because one comes to the
// same free set by taking away the same sets in another order.
func mostOf(sets []Set) func(free Set) int {
	known := map[Set]int{}
	var most func(free Set) int
	most = func(free Set) int {
		if n, ok := known[free]; ok {
			return n
		}
		n := 0
		for _, s := range sets {
			if s.IsWithin(free) {
				n = max(n, 1+most(free&^s))
			}
		}
		known[free] = n
		return n
	}
	return most
}
