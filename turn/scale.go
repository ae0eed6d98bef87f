package turn

import (
	"cmp"

	"breeze/api"
)

// scale has what contracts are compared by.
type scale struct {
	of func(Contract) int
}

// at compares contracts by what they are worth at a price, times its denominator.
func at(price Frac) scale {
	return scale{func(c Contract) int { return c.Fixed*price.Den + c.Rate*price.Num }}
}

// byRate compares contracts by their rates.
func byRate() scale {
	return scale{func(c Contract) int { return c.Rate }}
}

// compare returns which one of two contracts is less.
func (s scale) compare(a, b Contract) int { return cmp.Compare(s.of(a), s.of(b)) }

// most returns the most that any of the contracts has.
func (s scale) most(l []Contract) int {
	most := s.of(l[0])
	for _, c := range l {
		most = max(most, s.of(c))
	}
	return most
}

// best returns the places of all contracts that have most.
func (s scale) best(l []Contract) []int {
	most := s.most(l)
	var best []int
	for k := range len(l) {
		if s.of(l[k]) == most {
			best = append(best, k)
		}
	}
	return best
}

// isWithin tells whether a number is from -bound to bound.
func isWithin(n, bound int) bool { return n >= -bound && n <= bound }

// checkWith returns the error of contracts, or else that of a price.
func checkWith(l []Contract, price Frac) api.Errno {
	if e := Check(l); e != api.OK {
		return e
	}
	if !isWithin(price.Num, MaxPrice) || price.Den < 1 || price.Den > MaxPrice {
		return api.ErrRange
	}
	return api.OK
}

// lowest returns the fraction in lowest terms.
func (f Frac) lowest() Frac {
	divisor, rest := f.Den, f.Num
	for rest != 0 {
		divisor, rest = rest, divisor%rest
	}
	divisor = max(divisor, -divisor)
	return Frac{f.Num / divisor, f.Den / divisor}
}
