// Package index checks numbers that are the places of elements in a list, counted from 0, and has
// pairs, orders and sets of such numbers. It also picks so many elements of a list in all ways.
package index

import "breeze/api"

// Is tells whether a number is the index of one of so many elements.
func Is(i, many int) bool { return i >= 0 && i < many }

// Ascending returns the error of the first number that is not the index of one of so many
// elements (ErrNone), or not greater than the one before it (ErrOrder).
func Ascending(l []int, many int) api.Errno {
	for k, i := range l {
		if !Is(i, many) {
			return api.ErrNone
		}
		if k > 0 && i <= l[k-1] {
			return api.ErrOrder
		}
	}
	return api.OK
}
