package week

import "breeze/api"

// none stands in a board for a street that is still looked for.
const none = -1

// start is what a search begins with: the streets that are known, and those that bar it.
type start interface {
	street(cart, day int) int
	bars(street int) bool
}

// rows are the rows of a plan.
type rows [][]int

// begun is the lists of a corner.
type begun struct {
	streets int
	lists   [][]int
}

// board has a row for each cart. The search fills it.
type board [][]int

// A search finds either a full plan (filled), or a street that bars it (barred).
type (
	filled [][]int
	barred int
)

func (r rows) street(cart, day int) int {
	if cart >= len(r) {
		return none
	}
	return r[cart][day]
}

// bars is true for no street, because each of them occurs in each row.
func (r rows) bars(int) bool { return false }

func (b begun) street(cart, day int) int {
	if cart >= len(b.lists) || day >= len(b.lists[cart]) {
		return none
	}
	return b.lists[cart][day]
}

func (b begun) bars(street int) bool {
	times, days := 0, 0
	for _, l := range b.lists {
		days = len(l)
		for _, s := range l {
			if s == street {
				times++
			}
		}
	}
	return times < len(b.lists)+days-b.streets
}

// search returns the first full plan (R6), or the smallest street that bars all of them. It looks
// for the street first, because what no street bars can always be completed (P3.8).
func search(streets int, s start) any {
	for street := range streets {
		if s.bars(street) {
			return barred(street)
		}
	}
	b := laid(streets, s)
	b.fill(0)
	return filled(b)
}

// laid returns a board with what is known.
func laid(streets int, s start) board {
	b := make(board, streets)
	for cart := range b {
		b[cart] = make([]int, streets)
		for day := range b[cart] {
			b[cart][day] = s.street(cart, day)
		}
	}
	return b
}

// fill fills the places that are open, from one on, cart by cart, and returns whether it could. It
// tries the smallest streets first, so that the first plan is found first.
func (b board) fill(place int) bool {
	if place == len(b)*len(b) {
		return true
	}
	cart, day := place/len(b), place%len(b)
	if b[cart][day] != none {
		return b.fill(place + 1)
	}
	for street := range len(b) {
		if !b.fits(cart, day, street) {
			continue
		}
		b[cart][day] = street
		if b.fill(place + 1) {
			return true
		}
	}
	b[cart][day] = none
	return false
}

// fits tells whether a street is neither in the row of a cart nor on a day yet.
func (b board) fits(cart, day, street int) bool {
	for i := range b {
		if b[cart][i] == street || b[i][day] == street {
			return false
		}
	}
	return true
}

// completed returns the plan that a search has found.
func completed(streets int, s start) ([][]int, api.Errno) {
	switch found := search(streets, s).(type) {
	case filled:
		return found, api.OK
	default:
		return nil, api.ErrLost
	}
}
