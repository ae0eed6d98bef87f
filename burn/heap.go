package burn

import (
	"slices"

	"breeze/api"
	"breeze/index"
)

// isNone tells whether a number is no place.
func (h Heap) isNone(place int) bool { return !index.Is(place, h.Places) }

// checkWay returns the error of a way of a heap.
func (h Heap) checkWay(i int) api.Errno {
	way := h.Ways[i]
	if h.isNone(way[0]) || h.isNone(way[1]) {
		return api.ErrNone
	}
	if way[0] >= way[1] {
		return api.ErrOrder
	}
	if slices.Contains(h.Ways[:i], way) {
		return api.ErrTwice
	}
	return api.OK
}

// checkWith returns the error of a heap, or of some places of it.
func checkWith(h Heap, places ...int) api.Errno {
	if e := Check(h); e != api.OK {
		return e
	}
	if slices.ContainsFunc(places, h.isNone) {
		return api.ErrNone
	}
	return api.OK
}

// checkFires returns the error of a heap, or of fires.
func checkFires(h Heap, fires []int) api.Errno {
	if e := Check(h); e != api.OK {
		return e
	}
	if len(fires) == 0 {
		return api.ErrEmpty
	}
	if len(fires) > MaxPlaces {
		return api.ErrMany
	}
	if slices.ContainsFunc(fires, h.isNone) {
		return api.ErrNone
	}
	return api.OK
}

// checkDays returns the error of a heap, or of a number of days.
func checkDays(h Heap, days int) api.Errno {
	if e := Check(h); e != api.OK {
		return e
	}
	if days < 1 || days > MaxPlaces {
		return api.ErrRange
	}
	return api.OK
}

// burning tells of each place whether it burns.
type burning [MaxPlaces]bool

// list has the places that burn, in ascending order.
func (b burning) list() []int {
	var l []int
	for place, burns := range b {
		if burns {
			l = append(l, place)
		}
	}
	return l
}

// all is what burns if all places do.
func (h Heap) all() burning {
	var b burning
	for place := range h.Places {
		b[place] = true
	}
	return b
}

// spread returns what burns, and what is next to it.
func (h Heap) spread(b burning) burning {
	next := b
	for _, way := range h.Ways {
		if b[way[0]] || b[way[1]] {
			next[way[0]], next[way[1]] = true, true
		}
	}
	return next
}

// near returns the places that are at most so far from a place: those to which a fire comes in as
// many days. No place is as far from another one as there are places.
func (h Heap) near(place, most int) burning {
	var b burning
	b[place] = true
	for range min(most, h.Places) {
		b = h.spread(b)
	}
	return b
}

// far returns how far a place is from another one. It ends because one comes to all places.
func (h Heap) far(from, to int) int {
	far := 0
	for !h.near(from, far)[to] {
		far++
	}
	return far
}

// bar tells whether places bar days: a fire of these days reaches no two of them.
func (h Heap) bar(days int, places []int) bool {
	for i, k := range index.Pairs(len(places)) {
		if h.far(places[i], places[k]) < 2*days-1 {
			return false
		}
	}
	return len(places) > days
}
