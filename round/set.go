package round

import (
	"math/bits"

	"breeze/api"
)

// set has streets or corners: bit i stands for the one with number i.
type set uint

func one(i int) set { return 1 << i }

// below has all numbers from 0 that are less than many.
func below(many int) set { return 1<<many - 1 }

func (s set) has(i int) bool { return s&one(i) != 0 }

func (s set) isWithin(other set) bool { return s&^other == 0 }

func (s set) isOdd() bool { return bits.OnesCount(uint(s))%2 == 1 }

// list has the numbers of the set in ascending order.
func (s set) list() []int {
	var l []int
	for i := range bits.Len(uint(s)) {
		if s.has(i) {
			l = append(l, i)
		}
	}
	return l
}

// ascending changes a list to a set, or returns the error of its first number that is not less
// than many, or not greater than the one before it.
func ascending(l []int, many int) (set, api.Errno) {
	var s set
	for k, i := range l {
		if !isIndex(i, many) {
			return 0, api.ErrNone
		}
		if k > 0 && i <= l[k-1] {
			return 0, api.ErrOrder
		}
		s |= one(i)
	}
	return s, api.OK
}

func isIndex(i, many int) bool { return i >= 0 && i < many }
