package deal

import "breeze/index"

// bend returns the first list of two heaps and two buyers by which costs are not straight; it is
// empty if there is none.
func bend(costs [][]int) []int {
	for i, k := range index.Pairs(len(costs)) {
		for j, l := range index.Pairs(len(costs[0])) {
			if costs[i][j]+costs[k][l] > costs[i][l]+costs[k][j] {
				return []int{i, k, j, l}
			}
		}
	}
	return nil
}

func isStraight(costs [][]int) bool { return len(bend(costs)) == 0 }

// inOrder returns the costs of heaps and buyers in another order.
func inOrder(costs [][]int, heaps, buyers []int) [][]int {
	var out [][]int
	for _, i := range heaps {
		var l []int
		for _, j := range buyers {
			l = append(l, costs[i][j])
		}
		out = append(out, l)
	}
	return out
}
