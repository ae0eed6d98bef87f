package tip

import (
	"slices"

	"breeze/api"
	"breeze/index"
)

// checkLane returns the error of a lane of a market with so many corners.
func checkLane(lane [3]int, corners int) api.Errno {
	if !index.Is(lane[0], corners) || !index.Is(lane[1], corners) {
		return api.ErrNone
	}
	if lane[0] >= lane[1] {
		return api.ErrOrder
	}
	if lane[2] < 1 || lane[2] > MaxLength {
		return api.ErrRange
	}
	return api.OK
}

// checkWith returns the error of a market, or of some corners of it.
func checkWith(m Market, corners ...int) api.Errno {
	if e := Check(m); e != api.OK {
		return e
	}
	isNone := func(corner int) bool { return !index.Is(corner, len(m.Loads)) }
	if slices.ContainsFunc(corners, isNone) {
		return api.ErrNone
	}
	return api.OK
}

// way returns the way from a corner to another one.
func (m Market) way(from, to int) way {
	ways := m.ways(from)
	leads := func(w way) bool { return w.end() == to }
	return ways[slices.IndexFunc(ways, leads)]
}

// far returns how far each corner is from this one.
func (m Market) far(from int) []int {
	far := make([]int, len(m.Loads))
	for _, w := range m.ways(from) {
		far[w.end()] = w.far
	}
	return far
}

// fars returns how far each corner is from each one.
func (m Market) fars() [][]int {
	var fars [][]int
	for from := range m.Loads {
		fars = append(fars, m.far(from))
	}
	return fars
}

// cost returns what it costs if each corner is so far from the tip that is nearest to it.
func (m Market) cost(far []int) int {
	sum := 0
	for corner, loads := range m.Loads {
		sum += loads * far[corner]
	}
	return sum
}

// nearest returns how far each corner is from the nearest of some tips.
func nearest(fars [][]int, tips []int) []int {
	near := slices.Clone(fars[tips[0]])
	for _, tip := range tips {
		for corner, far := range fars[tip] {
			near[corner] = min(near[corner], far)
		}
	}
	return near
}

// smallest returns the indices of all numbers that are as small as any.
func smallest(numbers []int) []int {
	var l []int
	for i, n := range numbers {
		if n == slices.Min(numbers) {
			l = append(l, i)
		}
	}
	return l
}

// branch returns the branch of a corner over another one. It is empty just if they are not
// neighbours, because a neighbour is in the branch over it.
func (m Market) branch(corner, over int) index.Set {
	var branch index.Set
	for _, w := range m.ways(corner) {
		if len(w.corners) > 1 && w.corners[1] == over {
			branch |= index.One(w.end())
		}
	}
	return branch
}

// branchOf returns the branch of a corner over a neighbour, or the error of these.
func branchOf(m Market, corner, over int) (index.Set, api.Errno) {
	if e := checkWith(m, corner, over); e != api.OK {
		return 0, e
	}
	branch := m.branch(corner, over)
	if branch == 0 {
		return 0, api.ErrShape
	}
	return branch, api.OK
}

// isHeavy tells whether more than half of all loads are at these corners.
func (m Market) isHeavy(corners index.Set) bool {
	here, all := 0, 0
	for corner, loads := range m.Loads {
		all += loads
		if corners.Has(corner) {
			here += loads
		}
	}
	return 2*here > all
}
