package turn

import "slices"

// turn returns the price at which two contracts with different rates are worth the same, the one
// with the smaller rate first.
func turn(a, b Contract) Frac {
	return Frac{a.Fixed - b.Fixed, b.Rate - a.Rate}.lowest()
}

// cover tells whether at each price one of two contracts is worth at least as much as a third one.
func cover(a, b, c Contract) bool {
	if byRate().compare(a, b) > 0 {
		a, b = b, a
	}
	// if the price is far enough from 0, nothing but the rates decides
	if c.Rate < a.Rate || c.Rate > b.Rate {
		return false
	}
	if a.Rate == b.Rate {
		return c.Fixed <= max(a.Fixed, b.Fixed)
	}
	// a and b together come nearest to c where they are worth the same
	return at(turn(a, b)).compare(c, a) <= 0
}

// needed returns the places of the contracts that are needed, smaller rates first.
func needed(l []Contract) []int {
	var places []int
	for k := range len(l) {
		if isNeeded(l, k) {
			places = append(places, k)
		}
	}
	slices.SortFunc(places, func(i, j int) int { return byRate().compare(l[i], l[j]) })
	return places
}

// isNeeded tells whether a contract is needed. It is enough to look for two others that cover it: the
// prices at which it is worth more than another one are all those on one side of a price, or all, or
// none, and if any two others leave it such a price, all of them together do.
func isNeeded(l []Contract, k int) bool {
	if slices.Index(l, l[k]) < k {
		return false
	}
	for _, a := range l {
		for _, b := range l {
			if a != l[k] && b != l[k] && cover(a, b, l[k]) {
				return false
			}
		}
	}
	return true
}

// fair returns the fair part of a rate by the contracts that are needed, smaller rates first. There
// is none if the rate is smaller than all of theirs, or greater.
func fair(useful []Contract, rate int) (part Frac, ok bool) {
	reaches := func(c Contract) bool { return c.Rate >= rate }
	k := slices.IndexFunc(useful, reaches)
	switch {
	case k >= 0 && useful[k].Rate == rate:
		return Frac{useful[k].Fixed, 1}, true
	case k <= 0:
		return Frac{}, false
	}
	// a contract of this rate comes nearest to the best ones where those beside it turn
	price := turn(useful[k-1], useful[k])
	return Frac{at(price).of(useful[k]) - rate*price.Num, price.Den}.lowest(), true
}

// pick returns the contracts at some places.
func pick(l []Contract, places []int) []Contract {
	var out []Contract
	for _, k := range places {
		out = append(out, l[k])
	}
	return out
}
