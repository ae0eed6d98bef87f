package lot

import (
	"slices"

	"breeze/index"
)

// picks returns all ways to pick so many elements of a list. Those with elements that come earlier
// in the list are first.
func picks[T any](l []T, many int) [][]T {
	var out [][]T
	picked := make([]T, 0, many)
	var pick func(from []T)
	pick = func(from []T) {
		missing := many - len(picked)
		if missing == 0 {
			out = append(out, slices.Clone(picked))
			return
		}
		// the last elements are not picked first, because too few come behind them
		for i := range len(from) - missing + 1 {
			picked = append(picked, from[i])
			pick(from[i+1:])
			picked = picked[:len(picked)-1]
		}
	}
	pick(l)
	return out
}

// some returns all lists of so many loads, in ascending order.
func some(loads []int, many int) [][]int {
	return picks(index.Below(len(loads)).List(), many)
}

// pounds returns what these loads weigh together.
func pounds(loads, these []int) int {
	sum := 0
	for _, i := range these {
		sum += loads[i]
	}
	return sum
}

// whole returns, in ascending order, all lists of so many loads that weigh whole stones together.
func whole(stone int, loads []int, many int) [][]int {
	isNot := func(these []int) bool { return pounds(loads, these)%stone != 0 }
	return slices.DeleteFunc(some(loads, many), isNot)
}

// leave returns, in ascending order, everything that weights leave together, one of each list. What
// is left is below the stone, as an index is, so that sets of indices serve for it.
func leave(stone int, lists ...[]int) []int {
	// no weights leave 0
	left := index.One(0)
	for _, weights := range lists {
		var next index.Set
		for _, before := range left.List() {
			for _, weight := range weights {
				next |= index.One((before + weight) % stone)
			}
		}
		left = next
	}
	return left.List()
}
