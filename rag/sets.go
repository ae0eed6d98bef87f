package rag

import (
	"slices"

	"breeze/index"
)

// sets are different sets of the numbers of kinds, such as bags.
type sets []index.Set

// has tells whether a set is one of them.
func (s sets) has(set index.Set) bool { return slices.Contains(s, set) }

// that returns those of the sets of which something is true.
func (s sets) that(isTrue func(index.Set) bool) sets {
	var out sets
	for _, set := range s {
		if isTrue(set) {
			out = append(out, set)
		}
	}
	return out
}

// partsOf returns all parts of a set.
func partsOf(set index.Set) sets {
	var out sets
	for part := range set + 1 {
		if part.IsWithin(set) {
			out = append(out, part)
		}
	}
	return out
}

// traces returns what bags have in common with a set.
func (s sets) traces(on index.Set) sets {
	var out sets
	for _, bag := range s {
		if trace := bag & on; !out.has(trace) {
			out = append(out, trace)
		}
	}
	return out
}

// missing returns the parts of a set that are no traces of bags on it.
func (s sets) missing(on index.Set) sets {
	traces := s.traces(on)
	return partsOf(on).that(func(part index.Set) bool { return !traces.has(part) })
}

// tellApart tells whether each part of a set is a trace of bags on it.
func (s sets) tellApart(set index.Set) bool { return len(s.missing(set)) == 0 }

// tellApartAlike tells whether those of the bags that have the same rest tell a set apart.
func (s sets) tellApartAlike(set index.Set) bool {
	for _, rest := range s.traces(^set) {
		hasRest := func(bag index.Set) bool { return bag&^set == rest }
		if s.that(hasRest).tellApart(set) {
			return true
		}
	}
	return false
}

// apart returns the sets that bags tell apart.
func (s sets) apart(kinds int) sets { return partsOf(index.Below(kinds)).that(s.tellApart) }

// cubes returns the sets that bags tell apart with the same rest.
func (s sets) cubes(kinds int) sets { return partsOf(index.Below(kinds)).that(s.tellApartAlike) }

// lower takes a kind out of all bags, where the bag without it is no other one.
func (s sets) lower(kind int) sets {
	out := slices.Clone(s)
	for i, bag := range s {
		if without := bag &^ index.One(kind); !s.has(without) {
			out[i] = without
		}
	}
	return out
}

// lowest lowers bags by one kind after the other, as long as that changes them.
func (s sets) lowest(kinds int) sets {
	low := s
	for kind := range kinds {
		low = low.lower(kind)
	}
	if slices.Equal(low, s) {
		return low
	}
	return low.lowest(kinds)
}
