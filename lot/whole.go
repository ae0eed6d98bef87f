package lot

import (
	"slices"

	"breeze/index"
)

// some returns all lists of so many loads, in ascending order.
func some(loads []int, many int) [][]int {
	return index.Picks(index.Below(len(loads)).List(), many)
}

// pounds returns what these loads weigh together.
func pounds(loads, these []int) int {
	sum := 0
	for _, i := range these {
		sum += loads[i]
	}
	return sum
}

// whole returns, in ascending order, all lists of so many loads that weigh whole stones together.
func whole(stone int, loads []int, many int) [][]int {
	isNot := func(these []int) bool { return pounds(loads, these)%stone != 0 }
	return slices.DeleteFunc(some(loads, many), isNot)
}

// leave returns, in ascending order, everything that weights leave together, one of each list. What
// is left is below the stone, as an index is, so that sets of indices serve for it.
func leave(stone int, lists ...[]int) []int {
	// no weights leave 0
	left := index.One(0)
	for _, weights := range lists {
		var next index.Set
		for _, before := range left.List() {
			for _, weight := range weights {
				next |= index.One((before + weight) % stone)
			}
		}
		left = next
	}
	return left.List()
}
