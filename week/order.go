package week

import (
	"iter"

	"breeze/api"
	"breeze/index"
)

// first returns the first of several lists, or an empty one if there is none.
func first(lists iter.Seq[[]int]) []int {
	for l := range lists {
		return l
	}
	return nil
}

func count(lists iter.Seq[[]int]) int {
	many := 0
	for range lists {
		many++
	}
	return many
}

// fitting yields the rows that fit a plan, in ascending order.
func fitting(streets int, plan [][]int) iter.Seq[[]int] {
	return func(yield func([]int) bool) {
		for row := range index.Orders(streets) {
			if among(streets, plan, row) == api.OK && !yield(row) {
				return
			}
		}
	}
}

// crossings yields the crossings of a full plan, in ascending order.
func crossings(streets int, plan [][]int) iter.Seq[[]int] {
	return func(yield func([]int) bool) {
		for days := range index.Orders(streets) {
			if isCrossing(plan, days) && !yield(days) {
				return
			}
		}
	}
}

func isCrossing(plan [][]int, days []int) bool {
	var came [MaxStreets]bool
	for cart, day := range days {
		street := plan[cart][day]
		if came[street] {
			return false
		}
		came[street] = true
	}
	return true
}
