package burn

import "slices"

// kind is the kind of a day.
type kind int

// On the first day nothing burns but the fire of this day; on later ones also what burnt before, and
// what is next to it.
const (
	first kind = iota
	later
)

// spell is the fires of some days, from the first one on, and what burns on the last of them.
type spell struct {
	fires []int
	burns burning
}

// next is the kind of the day after these.
func (s spell) next() kind {
	if len(s.fires) == 0 {
		return first
	}
	return later
}

// dayAfter returns the spell with one day more, on which a fire is laid at a place.
func (h Heap) dayAfter(s spell, place int) spell {
	var burns burning
	if s.next() == later {
		burns = h.spread(s.burns)
	}
	burns[place] = true
	return spell{slices.Concat(s.fires, []int{place}), burns}
}

// fewest returns all lists of as few fires as can be enough, in ascending order. It ends because the
// fire of the first day alone comes to all places.
func (h Heap) fewest() [][]int {
	var lists [][]int
	spells := []spell{{}}
	for len(lists) == 0 {
		spells = h.longer(spells)
		for _, s := range spells {
			if s.burns == h.all() {
				lists = append(lists, s.fires)
			}
		}
	}
	return lists
}

// longer returns all spells with one day more, in the order of their fires.
func (h Heap) longer(spells []spell) []spell {
	var out []spell
	for _, s := range spells {
		for place := range h.Places {
			out = append(out, h.dayAfter(s, place))
		}
	}
	return out
}
