package crew

import (
	"slices"

	"breeze/api"
	"breeze/index"
)

// checkPairs returns the error of the pairs of a kind.
func checkPairs(pairs [][2]int, sifters int) api.Errno {
	if len(pairs) > MaxPairs {
		return api.ErrMany
	}
	for i, pair := range pairs {
		if !index.Is(pair[0], sifters) || !index.Is(pair[1], sifters) {
			return api.ErrNone
		}
		if pair[0] >= pair[1] {
			return api.ErrOrder
		}
		if slices.Contains(pairs[:i], pair) {
			return api.ErrTwice
		}
	}
	return api.OK
}

// checkWith returns the error of a crew, or of lists of its kinds.
func checkWith(c Crew, lists ...[]int) api.Errno {
	if e := Check(c); e != api.OK {
		return e
	}
	for _, kinds := range lists {
		if e := index.Ascending(kinds, len(c.Kinds)); e != api.OK {
			return e
		}
	}
	return api.OK
}

// checkChosen returns the error of a crew, or of a list that should have a pair of each kind.
func checkChosen(c Crew, choice []int) api.Errno {
	if e := Check(c); e != api.OK {
		return e
	}
	if len(choice) != len(c.Kinds) {
		return api.ErrShape
	}
	for kind, i := range choice {
		if !index.Is(i, len(c.Kinds[kind])) {
			return api.ErrNone
		}
	}
	return api.OK
}

// only returns the crew with some of its kinds alone.
func (c Crew) only(kinds []int) Crew {
	part := Crew{Sifters: c.Sifters}
	for _, kind := range kinds {
		part.Kinds = append(part.Kinds, c.Kinds[kind])
	}
	return part
}

// chosen returns the crew with as many of its kinds as were chosen for, and one pair for each.
func (c Crew) chosen(choice []int) Crew {
	part := Crew{Sifters: c.Sifters}
	for kind, i := range choice {
		part.Kinds = append(part.Kinds, c.Kinds[kind][i:i+1])
	}
	return part
}
