package round

import (
	"math/bits"

	"breeze/api"
	"breeze/index"
)

// set has streets or corners: bit i stands for the one with number i.
type set uint

func one(i int) set { return 1 << i }

// below has all numbers from 0 that are less than many.
func below(many int) set { return 1<<many - 1 }

func (s set) has(i int) bool { return s&one(i) != 0 }

func (s set) isWithin(other set) bool { return s&^other == 0 }

func (s set) isOdd() bool { return bits.OnesCount(uint(s))%2 == 1 }

// list has the numbers of the set in ascending order.
func (s set) list() []int {
	var l []int
	for i := range bits.Len(uint(s)) {
		if s.has(i) {
			l = append(l, i)
		}
	}
	return l
}

// ascending changes a list to a set, or returns the error of its first number that is not less
// than many, or not greater than the one before it.
func ascending(l []int, many int) (set, api.Errno) {
	if e := index.Ascending(l, many); e != api.OK {
		return 0, e
	}
	var s set
	for _, i := range l {
		s |= one(i)
	}
	return s, api.OK
}
