package tip

import (
	"slices"

	"breeze/index"
)

// order tells in which order corners are looked at. It is the ascending one, so that the first one
// of several ways, or of several lists of tips, is found first.
var order = [MaxCorners]int{0, 1, 2, 3, 4, 5, 6, 7}

// corners returns the corners of the market in the order in which they are looked at.
func (m Market) corners() []int {
	corners := order // a copy, of which a part can be given out
	return corners[:len(m.Loads)]
}

// length is the length of the lane between two corners, or 0 if there is none.
func (m Market) length(a, b int) int {
	for _, lane := range m.Lanes {
		if lane[0] == min(a, b) && lane[1] == max(a, b) {
			return lane[2]
		}
	}
	return 0
}

// way is corners one after the other, and how far it is from the first to the last one.
type way struct {
	corners []int
	far     int
}

func (w way) end() int { return w.corners[len(w.corners)-1] }

// on returns the way with one lane more.
func (w way) on(to, length int) way {
	return way{slices.Concat(w.corners, []int{to}), w.far + length}
}

// ways returns the ways from a corner to all those to which one comes, in ascending order: one
// follows the first lane to a corner where one has not been, and turns back where there is none.
func (m Market) ways(from int) []way {
	start := way{[]int{from}, 0}
	ways := []way{start}
	// the last one is the way that one has gone, and those before it are its beginnings
	gone := []way{start}
	been := index.One(from)
	corners := m.corners()
follow:
	here := gone[len(gone)-1]
	for _, to := range corners {
		length := m.length(here.end(), to)
		if length > 0 && !been.Has(to) {
			next := here.on(to, length)
			ways = append(ways, next)
			gone = append(gone, next)
			been |= index.One(to)
			goto follow
		}
	}
	gone = gone[:len(gone)-1]
	if len(gone) > 0 {
		goto follow
	}
	return ways
}
