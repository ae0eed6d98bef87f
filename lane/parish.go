package lane

import (
	"slices"

	"breeze/api"
	"breeze/index"
)

func isSide(n int) bool { return n >= 1 && n <= MaxSide }

// corners is how many corners there are.
func (p Parish) corners() int { return p.Rows * p.Columns }

// at returns the error of a cart at a corner.
func (p Parish) at(corner int) api.Errno {
	if !index.Is(corner, p.corners()) {
		return api.ErrNone
	}
	if slices.Contains(p.Shut, corner) {
		return api.ErrShut
	}
	return api.OK
}

// different returns the error of the yards, or of the tips.
func (p Parish) different(corners []int) api.Errno {
	for i, corner := range corners {
		if e := p.at(corner); e != api.OK {
			return e
		}
		if slices.Contains(corners[:i], corner) {
			return api.ErrTwice
		}
	}
	return api.OK
}

// checkWay returns the error of a way, wherever it begins and ends.
func (p Parish) checkWay(way []int) api.Errno {
	if len(way) == 0 {
		return api.ErrEmpty
	}
	for i, corner := range way {
		if e := p.at(corner); e != api.OK {
			return e
		}
		if i > 0 && !slices.Contains(p.steps(way[i-1]), corner) {
			return api.ErrOrder
		}
	}
	return api.OK
}

// steps returns the corners to which one step leads from a corner, in ascending order.
func (p Parish) steps(corner int) []int {
	var next []int
	right, below := corner+1, corner+p.Columns
	if right%p.Columns != 0 && p.at(right) == api.OK {
		next = append(next, right)
	}
	if p.at(below) == api.OK {
		next = append(next, below)
	}
	return next
}

// ways returns how many ways lead from a corner to another one.
func (p Parish) ways(from, to int) int {
	if p.at(from) != api.OK {
		return 0
	}
	return countWays(p.steps, from, to)
}

// countWays counts the ways from a corner that is not shut.
func countWays(steps func(corner int) []int, from, to int) int {
	if from == to {
		return 1
	}
	many := 0
	for _, corner := range steps(from) {
		many += countWays(steps, corner, to)
	}
	return many
}

// shutToo returns the parish with more corners shut, which need not be in order.
func (p Parish) shutToo(corners ...int) Parish {
	p.Shut = slices.Concat(p.Shut, corners)
	return p
}

// isBarred tells whether no way leads from any yard to any tip. Some of these may be shut.
func (p Parish) isBarred(x Places) bool {
	for _, yard := range x.Yards {
		for _, tip := range x.Tips {
			if p.ways(yard, tip) > 0 {
				return false
			}
		}
	}
	return true
}

// firstBar returns the first list of so many corners, from one corner on, without which no way
// leads from any yard to any tip.
func (p Parish) firstBar(x Places, many, from int) (bar []int, ok bool) {
	if many == 0 {
		return nil, p.isBarred(x)
	}
	for corner := from; corner < p.corners(); corner++ {
		if rest, ok := p.shutToo(corner).firstBar(x, many-1, corner+1); ok {
			return append([]int{corner}, rest...), true
		}
	}
	return nil, false
}

// determinant goes through the numbers of the first row, each of which leaves a smaller table.
func determinant(table [][]int) int {
	if len(table) == 0 {
		return 1
	}
	sum, sign := 0, 1
	for column, n := range table[0] {
		sum += sign * n * determinant(without(column, table[1:]))
		sign = -sign
	}
	return sum
}

func without(column int, rows [][]int) [][]int {
	var out [][]int
	for _, row := range rows {
		out = append(out, slices.Concat(row[:column], row[column+1:]))
	}
	return out
}
