package index

import "slices"

// Picks returns all ways to pick so many elements of a list. Those with elements that come earlier
// in the list are first.
func Picks[T any](l []T, many int) [][]T {
	var out [][]T
	picked := make([]T, 0, many)
	var pick func(from []T)
	pick = func(from []T) {
		missing := many - len(picked)
		if missing == 0 {
			out = append(out, slices.Clone(picked))
			return
		}
		// the last elements are not picked first, because too few come behind them
		for i := range len(from) - missing + 1 {
			picked = append(picked, from[i])
			pick(from[i+1:])
			picked = picked[:len(picked)-1]
		}
	}
	pick(l)
	return out
}
