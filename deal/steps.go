package deal

import "slices"

// step is what goes from a heap to a buyer in one step of the corner deal.
type step struct{ heap, buyer, loads int }

// steps returns the steps of the corner deal. They come to the last buyer, and from there to the
// last heap, because all heaps together have as many loads as all buyers together want.
func steps(l Loads) []step {
	has, wants := slices.Clone(l.Has), slices.Clone(l.Wants)
	var out []step
	for i, j := 0, 0; j < len(wants); {
		loads := min(has[i], wants[j])
		out = append(out, step{i, j, loads})
		has[i] -= loads
		wants[j] -= loads
		if has[i] == 0 && i < len(has)-1 {
			i++
		} else {
			j++
		}
	}
	return out
}

// along returns the prices that are together just the cost in each step, if that of heap 0 is 0.
func along(costs [][]int, steps []step) Prices {
	p := Prices{make([]int, len(costs)), make([]int, len(costs[0]))}
	heap := 0
	for _, s := range steps {
		cost := costs[s.heap][s.buyer]
		// a step to another heap stays with its buyer, whose price is known, and one to another
		// buyer with its heap
		if s.heap != heap {
			p.Heaps[s.heap] = cost - p.Buyers[s.buyer]
		} else {
			p.Buyers[s.buyer] = cost - p.Heaps[s.heap]
		}
		heap = s.heap
	}
	return p
}
