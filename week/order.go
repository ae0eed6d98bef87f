package week

import (
	"iter"
	"slices"

	"breeze/api"
)

// orders yields all lists that have each number less than many once, in ascending order.
func orders(many int) iter.Seq[[]int] {
	return func(yield func([]int) bool) {
		eachOrder(nil, many, yield)
	}
}

// eachOrder yields the orders that begin as head does, and tells whether more are wanted.
func eachOrder(head []int, many int, yield func([]int) bool) bool {
	if len(head) == many {
		return yield(slices.Clone(head))
	}
	for i := range many {
		if !slices.Contains(head, i) && !eachOrder(append(head, i), many, yield) {
			return false
		}
	}
	return true
}

// first returns the first of several lists, or an empty one if there is none.
func first(lists iter.Seq[[]int]) []int {
	for l := range lists {
		return l
	}
	return nil
}

func count(lists iter.Seq[[]int]) int {
	many := 0
	for range lists {
		many++
	}
	return many
}

// fitting yields the rows that fit a plan, in ascending order.
func fitting(streets int, plan [][]int) iter.Seq[[]int] {
	return func(yield func([]int) bool) {
		for row := range orders(streets) {
			if among(streets, plan, row) == api.OK && !yield(row) {
				return
			}
		}
	}
}

// crossings yields the crossings of a full plan, in ascending order.
func crossings(streets int, plan [][]int) iter.Seq[[]int] {
	return func(yield func([]int) bool) {
		for days := range orders(streets) {
			if isCrossing(plan, days) && !yield(days) {
				return
			}
		}
	}
}

func isCrossing(plan [][]int, days []int) bool {
	var came [MaxStreets]bool
	for cart, day := range days {
		street := plan[cart][day]
		if came[street] {
			return false
		}
		came[street] = true
	}
	return true
}
