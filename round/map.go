package round

import (
	"slices"

	"breeze/api"
	"breeze/index"
)

// cart is a place in a round: the corner at which one is, the streets through which one still has
// to go, and those of them through which one has to go twice.
type cart struct {
	at          int
	left, again index.Set
}

func (m Map) all() index.Set { return index.Below(len(m.Streets)) }

func (m Map) ends(street int) index.Set {
	s := m.Streets[street]
	return index.One(s[0]) | index.One(s[1])
}

// other is the corner to which a street leads from one of its corners.
func (m Map) other(street, corner int) int {
	s := m.Streets[street]
	return s[0] + s[1] - corner
}

// reached returns the corners to which one comes by some streets.
func (m Map) reached(from int, by index.Set) index.Set {
	found := index.One(from)
	// each time but the last one finds a corner
	for range m.Corners {
		for i := range m.Streets {
			if by.Has(i) && m.ends(i)&found != 0 {
				found |= m.ends(i)
			}
		}
	}
	return found
}

// odd returns the corners that an odd number of these streets have.
func (m Map) odd(streets index.Set) index.Set {
	var odd index.Set
	for i := range m.Streets {
		if streets.Has(i) {
			odd ^= m.ends(i)
		}
	}
	return odd
}

// isEnough asks only for the corners that are odd, because one comes to all corners anyway: if an
// even number of streets leads away from each of them, there is a round.
func (m Map) isEnough(twice index.Set) bool { return m.odd(twice) == m.odd(m.all()) }

// twice checks the map and a list of streets that are gone through twice.
func (m Map) twice(l []int) (index.Set, api.Errno) {
	if e := Check(m); e != api.OK {
		return 0, e
	}
	s, e := index.SetOf(l, len(m.Streets))
	if e != api.OK {
		return 0, e
	}
	if !m.isEnough(s) {
		return 0, api.ErrProof
	}
	return s, api.OK
}

func isOdd(s index.Set) bool { return s.Many()%2 == 1 }

func isFewer(a, b []int) bool {
	if len(a) != len(b) {
		return len(a) < len(b)
	}
	return slices.Compare(a, b) < 0
}

// through sends a cart through a street.
func (m Map) through(c cart, street int) cart {
	if c.again.Has(street) {
		c.again &^= index.One(street)
	} else {
		c.left &^= index.One(street)
	}
	c.at = m.other(street, c.at)
	return c
}

// firstRound returns the first round of a cart that goes twice through streets that are enough.
func (m Map) firstRound(again index.Set) []int {
	c := cart{at: 0, left: m.all(), again: again}
	var round []int
	for {
		i, ok := m.next(c)
		if !ok {
			return round
		}
		round = append(round, i)
		c = m.through(c, i)
	}
}

// next returns the first street after which one can still go through all that is left.
func (m Map) next(c cart) (street int, ok bool) {
	for _, i := range c.left.List() {
		if m.ends(i).Has(c.at) && m.goesOn(m.through(c, i)) {
			return i, true
		}
	}
	return 0, false
}

// goesOn tells whether one comes to all streets that are left. If so, one can go through all of
// them and end at the yard, because an odd number of passes is left at no other corner than the
// yard and the one at which one is.
func (m Map) goesOn(c cart) bool {
	found := m.reached(c.at, c.left)
	for _, i := range c.left.List() {
		if !m.ends(i).IsWithin(found) {
			return false
		}
	}
	return true
}

func (m Map) side(l []int) (index.Set, api.Errno) {
	s, e := index.SetOf(l, m.Corners)
	if e != api.OK {
		return 0, e
	}
	if s == 0 || s == index.Below(m.Corners) {
		return 0, api.ErrShape
	}
	return s, api.OK
}

func (m Map) cut(side index.Set) index.Set {
	var cut index.Set
	for i := range m.Streets {
		if isOdd(m.ends(i) & side) {
			cut |= index.One(i)
		}
	}
	return cut
}

// oddCuts returns the cuts of all sides with an odd number of odd corners, in ascending order.
// None of these sides is empty or has all corners, because an even number of corners are odd.
func (m Map) oddCuts() []index.Set {
	odd := m.odd(m.all())
	var cuts []index.Set
	for side := range index.Below(m.Corners) {
		// the corners that are not in a side have the same cut
		if side.Has(0) && isOdd(side&odd) {
			cuts = append(cuts, m.cut(side))
		}
	}
	slices.SortFunc(cuts, index.Set.Compare)
	return cuts
}
