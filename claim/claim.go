// Package claim divides what several houses claim: see shared/doc/01-claim.md.
package claim

import (
	"cmp"
	"slices"

	"breeze/api"
	"breeze/index"
)

// The limits, and how many parts a penny has.
const (
	MaxHouses = 5
	MaxClaim  = 1000
	Parts     = 120
)

// row has a number of parts for each house, and 0 in the places after the last one.
type row [MaxHouses]int

// houses is what is known of houses before anything is divided, all of it in parts.
type houses struct {
	many   int
	worth  int
	claims row
}

// Check returns the error of a worth and claims.
func Check(worth int, claims []int) api.Errno {
	if len(claims) == 0 {
		return api.ErrEmpty
	}
	if len(claims) > MaxHouses {
		return api.ErrMany
	}
	sum := 0
	for _, c := range claims {
		if !isClaim(c) {
			return api.ErrRange
		}
		sum += c
	}
	if worth < 0 || worth > sum {
		return api.ErrRange
	}
	return api.OK
}

// Two returns what two houses get.
func Two(worth, a, b int) (first, second int, e api.Errno) {
	if !isClaim(a) || !isClaim(b) || worth < 0 || worth > a+b {
		return 0, 0, api.ErrRange
	}
	first, second = twice(worth*Parts, a*Parts, b*Parts)
	return first / 2, second / 2, api.OK
}

// Divide returns the division by the rule.
func Divide(worth int, claims []int) ([]int, api.Errno) {
	h, e := known(worth, claims)
	if e != api.OK {
		return nil, e
	}
	half := h.claims.half()
	if h.worth <= half.sum() {
		return h.list(h.level(h.worth, half)), api.OK
	}
	lost := h.level(h.missing(), half)
	return h.list(h.claims.without(lost)), api.OK
}

// Gains returns the division by equal gains.
func Gains(worth int, claims []int) ([]int, api.Errno) {
	h, e := known(worth, claims)
	if e != api.OK {
		return nil, e
	}
	return h.list(h.level(h.worth, h.claims)), api.OK
}

// Losses returns the division by equal losses.
func Losses(worth int, claims []int) ([]int, api.Errno) {
	h, e := known(worth, claims)
	if e != api.OK {
		return nil, e
	}
	lost := h.level(h.missing(), h.claims)
	return h.list(h.claims.without(lost)), api.OK
}

// Order returns the division in an order.
func Order(worth int, claims, order []int) ([]int, api.Errno) {
	h, e := known(worth, claims)
	if e != api.OK {
		return nil, e
	}
	if e := h.eachOnce(order); e != api.OK {
		return nil, e
	}
	return h.list(h.inOrder(order)), api.OK
}

// Average returns the division on the average.
func Average(worth int, claims []int) ([]int, api.Errno) {
	h, e := known(worth, claims)
	if e != api.OK {
		return nil, e
	}
	var sums row
	orders := h.addOrders(h.numbers(), 0, &sums)
	for i := range sums {
		sums[i] /= orders
	}
	return h.list(sums), api.OK
}

// Valid checks a division.
func Valid(worth int, claims, gets []int) api.Errno {
	h, e := known(worth, claims)
	if e != api.OK {
		return e
	}
	if len(gets) != h.many {
		return api.ErrShape
	}
	sum := 0
	for i, g := range gets {
		if g < 0 || g > h.claims[i] {
			return api.ErrRange
		}
		sum += g
	}
	if sum != h.worth {
		return api.ErrSum
	}
	return api.OK
}

// Why returns the first two houses that are not at one.
func Why(worth int, claims, gets []int) (i, j int, e api.Errno) {
	if e := Valid(worth, claims, gets); e != api.OK {
		return 0, 0, e
	}
	for i, j := range index.Pairs(len(claims)) {
		if !atOne(claims, gets, i, j) {
			return i, j, api.OK
		}
	}
	return 0, 0, api.ErrClash
}

// Proves checks whether two houses are not at one.
func Proves(worth int, claims, gets []int, i, j int) api.Errno {
	if e := Valid(worth, claims, gets); e != api.OK {
		return e
	}
	if !index.Is(i, len(claims)) || !index.Is(j, len(claims)) {
		return api.ErrNone
	}
	if i == j {
		return api.ErrTwice
	}
	if atOne(claims, gets, i, j) {
		return api.ErrProof
	}
	return api.OK
}

func isClaim(c int) bool { return c >= 1 && c <= MaxClaim }

// known changes pence to parts, in which all divisions are whole numbers: 120 is divided by 2 for
// halves, by up to 5 for houses that get the same, and by 5! for all orders.
func known(worth int, claims []int) (houses, api.Errno) {
	if e := Check(worth, claims); e != api.OK {
		return houses{}, e
	}
	h := houses{many: len(claims), worth: worth * Parts}
	for i, c := range claims {
		h.claims[i] = c * Parts
	}
	return h, api.OK
}

// twice returns two times what two houses get, because the half of what is left to both need not
// be a whole number of parts.
func twice(worth, a, b int) (first, second int) {
	first = max(0, worth-b)
	second = max(0, worth-a)
	left := worth - first - second
	return 2*first + left, 2*second + left
}

func atOne(claims, gets []int, i, j int) bool {
	first, second := twice(gets[i]+gets[j], claims[i]*Parts, claims[j]*Parts)
	return first == 2*gets[i] && second == 2*gets[j]
}

func (r row) sum() int {
	sum := 0
	for _, p := range r {
		sum += p
	}
	return sum
}

func (r row) half() row {
	for i := range r {
		r[i] /= 2
	}
	return r
}

func (r row) without(lost row) row {
	for i := range r {
		r[i] -= lost[i]
	}
	return r
}

// missing is what all houses together lose.
func (h houses) missing() int { return h.claims.sum() - h.worth }

func (h houses) numbers() []int {
	l := make([]int, h.many)
	for i := range l {
		l[i] = i
	}
	return l
}

func (h houses) list(r row) []int { return slices.Clone(r[:h.many]) }

// level gives the same to all houses, but to none more than its most. It begins with those that
// take the least, so that what they cannot take is still there for the others.
func (h houses) level(parts int, most row) row {
	order := h.numbers()
	slices.SortStableFunc(order, func(i, j int) int { return cmp.Compare(most[i], most[j]) })
	var gets row
	for served, i := range order {
		gets[i] = min(most[i], parts/(h.many-served))
		parts -= gets[i]
	}
	return gets
}

func (h houses) eachOnce(order []int) api.Errno {
	if len(order) != h.many {
		return api.ErrShape
	}
	var came [MaxHouses]bool
	for _, i := range order {
		if !index.Is(i, h.many) {
			return api.ErrNone
		}
		if came[i] {
			return api.ErrTwice
		}
		came[i] = true
	}
	return api.OK
}

func (h houses) inOrder(order []int) row {
	var gets row
	left := h.worth
	for _, i := range order {
		gets[i] = min(h.claims[i], left)
		left -= gets[i]
	}
	return gets
}

// addOrders adds what houses get in all orders that begin as the first houses of order do, and
// returns how many these are. It leaves order as it was.
func (h houses) addOrders(order []int, first int, sums *row) int {
	if first == len(order) {
		for i, g := range h.inOrder(order) {
			sums[i] += g
		}
		return 1
	}
	many := 0
	for k := first; k < len(order); k++ {
		order[first], order[k] = order[k], order[first]
		many += h.addOrders(order, first+1, sums)
		order[first], order[k] = order[k], order[first]
	}
	return many
}
