package index

import (
	"iter"
	"slices"
)

// Pairs yields any two of so many elements, the smaller index first, in ascending order.
func Pairs(many int) iter.Seq2[int, int] {
	return func(yield func(int, int) bool) {
		for i := range many {
			for k := i + 1; k < many; k++ {
				if !yield(i, k) {
					return
				}
			}
		}
	}
}

// Orders yields all lists that have the index of each of so many elements once, in ascending order.
func Orders(many int) iter.Seq[[]int] {
	return func(yield func([]int) bool) {
		eachOrder(nil, many, yield)
	}
}

// eachOrder yields the orders that begin as head does, and tells whether more are wanted.
func eachOrder(head []int, many int, yield func([]int) bool) bool {
	if len(head) == many {
		return yield(slices.Clone(head))
	}
	for i := range many {
		if !slices.Contains(head, i) && !eachOrder(append(head, i), many, yield) {
			return false
		}
	}
	return true
}
