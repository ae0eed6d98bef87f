package lane

import (
	"iter"
	"slices"
)

// search looks for families that are apart.
type search struct {
	places Places
	steps  func(corner int) []int
	yield  func(family [][]int) bool
}

// apart yields the families that are apart, in ascending order.
func (p Parish) apart(x Places) iter.Seq[[][]int] {
	return func(yield func([][]int) bool) {
		search{x, p.steps, yield}.send(nil)
	}
}

// send sends the carts whose ways are not in ways yet, and tells whether more families are wanted.
func (s search) send(ways [][]int) bool {
	cart := len(ways)
	if cart == len(s.places.Yards) {
		return s.yield(kept(ways))
	}
	return s.goOn(ways, []int{s.places.Yards[cart]})
}

// goOn lets a cart go on, and then the others. A cart ends at the first tip to which it comes: as
// there are as many tips as carts, each tip is the end of a way, so what goes on from it meets one.
func (s search) goOn(ways [][]int, way []int) bool {
	corner := way[len(way)-1]
	if isOn(ways, corner) {
		return true
	}
	if slices.Contains(s.places.Tips, corner) {
		return s.send(append(ways, way))
	}
	for _, next := range s.steps(corner) {
		if !s.goOn(ways, append(way, next)) {
			return false
		}
	}
	return true
}

func isOn(ways [][]int, corner int) bool {
	return slices.ContainsFunc(ways, func(way []int) bool { return slices.Contains(way, corner) })
}

// kept returns a copy of a family: the search goes on with the memory of its ways.
func kept(family [][]int) [][]int {
	out := make([][]int, len(family))
	for cart, way := range family {
		out[cart] = make([]int, len(way))
		copy(out[cart], way)
	}
	return out
}

// meeting is a corner that the ways of two carts have in common.
type meeting struct {
	cart, other int
	corner      int
}

// firstMeeting returns the first corner, along the way of the smallest cart for which there is
// one, that another way has, and the smallest cart of such ways.
func firstMeeting(family [][]int) (m meeting, ok bool) {
	for cart, way := range family {
		for _, corner := range way {
			for other, l := range family {
				if other != cart && slices.Contains(l, corner) {
					return meeting{cart, other, corner}, true
				}
			}
		}
	}
	return meeting{}, false
}

// swapped returns a family in which what comes behind the corner is exchanged.
func (m meeting) swapped(family [][]int) [][]int {
	out := kept(family)
	a, b := family[m.cart], family[m.other]
	i, j := slices.Index(a, m.corner), slices.Index(b, m.corner)
	out[m.cart] = slices.Concat(a[:i], b[j:])
	out[m.other] = slices.Concat(b[:j], a[i:])
	return out
}
