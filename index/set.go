package index

import (
	"math/bits"
	"slices"

	"breeze/api"
)

// Set has the indices of elements: bit i stands for the index i.
type Set uint

// One has an index alone.
func One(i int) Set { return 1 << i }

// Below has the indices of so many elements.
func Below(many int) Set { return 1<<many - 1 }

// SetOf changes a list to a set, or returns the error of Ascending.
func SetOf(l []int, many int) (Set, api.Errno) {
	if e := Ascending(l, many); e != api.OK {
		return 0, e
	}
	return Of(l), api.OK
}

// Of changes a list of indices to a set.
func Of(l []int) Set {
	var s Set
	for _, i := range l {
		s |= One(i)
	}
	return s
}

// Has tells whether an index is in the set.
func (s Set) Has(i int) bool { return s&One(i) != 0 }

// IsWithin tells whether the set is a part of another one.
func (s Set) IsWithin(other Set) bool { return s&^other == 0 }

// Many returns how many indices are in the set.
func (s Set) Many() int { return bits.OnesCount(uint(s)) }

// List has the indices of the set in ascending order.
func (s Set) List() []int {
	var l []int
	for i := range bits.Len(uint(s)) {
		if s.Has(i) {
			l = append(l, i)
		}
	}
	return l
}

// Compare compares the lists of two sets.
func (s Set) Compare(other Set) int { return slices.Compare(s.List(), other.List()) }
