package turn_test

import (
	"cmp"
	"maps"
	"math/big"
	"math/rand/v2"
	"slices"
	"strconv"
	"testing"

	"breeze/api"
	"breeze/turn"
)

// ratio returns a fraction in lowest terms.
func ratio(num, den int) turn.Frac {
	r := big.NewRat(int64(num), int64(den))
	return turn.Frac{int(r.Num().Int64()), int(r.Denom().Int64())}
}

func sum(a, b turn.Frac) turn.Frac { return ratio(a.Num*b.Den+b.Num*a.Den, a.Den*b.Den) }

func half(f turn.Frac) turn.Frac { return ratio(f.Num, 2*f.Den) }

func times(n int, f turn.Frac) turn.Frac { return ratio(n*f.Num, f.Den) }

// whole is a number as a fraction.
func whole(n int) turn.Frac { return turn.Frac{n, 1} }

func compare(a, b turn.Frac) int { return cmp.Compare(a.Num*b.Den, b.Num*a.Den) }

// worth is what a contract is worth at a price, times the price's denominator.
func worth(c turn.Contract, price turn.Frac) int { return c.Fixed*price.Den + c.Rate*price.Num }

// most is what the best of some contracts is worth at a price, times the price's denominator.
func most(l []turn.Contract, price turn.Frac) int {
	out := worth(l[0], price)
	for _, c := range l {
		out = max(out, worth(c, price))
	}
	return out
}

// sample is a book of contracts, with prices at which all is seen: those at which any two of its contracts
// are worth the same, and one between any two of these, below them, and beyond them.
type sample struct {
	l      []turn.Contract
	prices []turn.Frac
}

func with(l []turn.Contract) sample {
	var same []turn.Frac
	for _, a := range l {
		for _, b := range l {
			if a.Rate < b.Rate {
				same = append(same, ratio(a.Fixed-b.Fixed, b.Rate-a.Rate))
			}
		}
	}
	if len(same) == 0 {
		return sample{l, fracs("0/1")}
	}
	slices.SortFunc(same, compare)
	same = slices.Compact(same)
	prices := []turn.Frac{sum(same[0], whole(-1))}
	for i, price := range same {
		if i > 0 {
			prices = append(prices, half(sum(same[i-1], price)))
		}
		prices = append(prices, price)
	}
	return sample{l, append(prices, sum(same[len(same)-1], whole(1)))}
}

// givable are the prices of a sample that can be given.
func (x sample) givable() []turn.Frac {
	return slices.DeleteFunc(slices.Clone(x.prices), func(price turn.Frac) bool {
		return max(price.Num, -price.Num, price.Den) > turn.MaxPrice
	})
}

// isFirst tells whether no contract before k has the same fixed part and rate.
func (x sample) isFirst(k int) bool { return slices.Index(x.l, x.l[k]) == k }

// isNeeded tells whether a contract is needed, by the definition.
func (x sample) isNeeded(k int) bool {
	return x.isFirst(k) && slices.ContainsFunc(x.prices, func(price turn.Frac) bool {
		return !slices.ContainsFunc(x.l, func(c turn.Contract) bool { return c != x.l[k] && worth(c, price) >= worth(x.l[k], price) })
	})
}

// needed returns the contracts that are needed, smaller rates first.
func (x sample) needed() []int {
	var out []int
	for rate := -2 * turn.MaxRate; rate <= 2*turn.MaxRate; rate++ {
		for k, c := range x.l {
			if c.Rate == rate && x.isNeeded(k) {
				out = append(out, k)
			}
		}
	}
	return out
}

// best returns the contracts that are best at a price.
func (x sample) best(price turn.Frac) []int {
	var out []int
	for k, c := range x.l {
		if worth(c, price) == most(x.l, price) {
			out = append(out, k)
		}
	}
	return out
}

// turns returns the prices at which two needed contracts are best, in ascending order.
func (x sample) turns() []turn.Frac {
	needed := x.needed()
	return slices.DeleteFunc(slices.Clone(x.prices), func(price turn.Frac) bool {
		both := slices.DeleteFunc(x.best(price), func(k int) bool { return !slices.Contains(needed, k) })
		return len(both) != 2
	})
}

// isCovered tells whether i and j cover k, by the definition.
func (x sample) isCovered(k, i, j int) bool {
	return !slices.ContainsFunc(x.prices, func(price turn.Frac) bool {
		return worth(x.l[k], price) > max(worth(x.l[i], price), worth(x.l[j], price))
	})
}

// fair returns the fair part of a rate, by the definition: what is left of the worth of a best contract at a
// price, when the rate times the price is taken away, is smallest at one of the sample's prices.
func (x sample) fair(rate int) turn.Frac {
	left := func(price turn.Frac) turn.Frac { return turn.Frac{most(x.l, price) - rate*price.Num, price.Den} }
	least := left(x.prices[0])
	for _, price := range x.prices {
		least = slices.MinFunc([]turn.Frac{least, left(price)}, compare)
	}
	return ratio(least.Num, least.Den)
}

// has tells whether the book has contracts whose rates are at most, and such whose rates are at least, this rate.
func (x sample) has(rate int) bool {
	byRate := func(a, b turn.Contract) int { return cmp.Compare(a.Rate, b.Rate) }
	return slices.MinFunc(x.l, byRate).Rate <= rate && rate <= slices.MaxFunc(x.l, byRate).Rate
}

func shuffled(r *rand.Rand, l []turn.Contract) []turn.Contract {
	l = slices.Clone(l)
	r.Shuffle(len(l), func(i, k int) { l[i], l[k] = l[k], l[i] })
	return l
}

// from draws a number from -bound to bound.
func from(r *rand.Rand, bound int) int { return r.IntN(2*bound+1) - bound }

// bent draws contracts of different rates that are needed, or nearly so: the greater a rate, the more the fixed
// part falls from each to the next one.
func bent(r *rand.Rand, many, loose int) []turn.Contract {
	var l []turn.Contract
	top, middle, by := r.IntN(turn.MaxFixed+1), from(r, 3), 1+r.IntN(2)
	for _, rate := range r.Perm(2*turn.MaxRate + 1)[:many] {
		rate -= turn.MaxRate
		fixed := top - by*(rate-middle)*(rate-middle)/2 + from(r, loose)
		l = append(l, turn.Contract{min(max(fixed, -turn.MaxFixed), turn.MaxFixed), rate})
	}
	return l
}

// drawn draws a book: any contracts, small ones, or needed ones, and some of them twice.
func drawn(r *rand.Rand) []turn.Contract {
	many := 1 + r.IntN(turn.MaxContracts)
	var l []turn.Contract
	switch r.IntN(4) {
	case 0:
		for range many {
			l = append(l, turn.Contract{from(r, turn.MaxFixed), from(r, turn.MaxRate)})
		}
	case 1:
		for range many {
			l = append(l, turn.Contract{from(r, 4), from(r, 3)})
		}
	default:
		l = bent(r, many, r.IntN(3))
	}
	for range r.IntN(3) {
		l[r.IntN(many)] = l[r.IntN(many)]
	}
	return l
}

// small are all lists of so many contracts with fixed parts and rates from -1 to 1.
func small(many int) [][]turn.Contract {
	if many == 0 {
		return [][]turn.Contract{nil}
	}
	var out [][]turn.Contract
	for _, l := range small(many - 1) {
		for n := range 9 {
			out = append(out, append(slices.Clip(l), turn.Contract{n/3 - 1, n%3 - 1}))
		}
	}
	return out
}

// samples returns all books of up to three contracts with small numbers, and some of up to eight.
func samples() []sample {
	r := rand.New(rand.NewPCG(12, 0))
	var out []sample
	for many := 1; many <= 3; many++ {
		for _, l := range small(many) {
			out = append(out, with(l))
		}
	}
	for range 1500 {
		out = append(out, with(drawn(r)))
	}
	return out
}

func enough(t *testing.T, found map[string]int, kinds, least int) {
	t.Helper()
	if len(found) < kinds || slices.Min(slices.Collect(maps.Values(found))) < least {
		t.Errorf("too few samples: %v", found)
	}
}

// count counts what is true, and what is not.
func count(found map[string]int, name string, isTrue bool) {
	if !isTrue {
		name = "not " + name
	}
	found[name]++
}

// P12.2, by the definition.
func TestAllPrices(t *testing.T) {
	r := rand.New(rand.NewPCG(12, 1))
	found := map[string]int{}
	for _, x := range samples() {
		prices := append(x.givable(), turn.Frac{from(r, turn.MaxPrice), 1 + r.IntN(turn.MaxPrice)}, turn.Frac{from(r, 8), 1 + r.IntN(8)})
		for _, price := range prices {
			best := x.best(price)
			if a := must(turn.Best(x.l, price)); !slices.Equal(a, best) {
				t.Errorf("Best of %v: %v: %v, want %v", x.l, price, a, best)
			}
			want := ratio(most(x.l, price), price.Den)
			if f := must(turn.Worth(x.l, price)); f != want {
				t.Errorf("Worth of %v: %v: %v, want %v", x.l, price, f, want)
			}
			count(found, "several", len(best) > 1)
			count(found, "whole", want.Den == 1)
			count(found, "in parts of the price", want.Den == price.Den)
		}
	}
	enough(t, found, 6, 1000)
}

// P12.3 and P12.7, by the definitions.
func TestAllNeeded(t *testing.T) {
	found := map[string]int{}
	for _, x := range samples() {
		needed, turns := must(turn.Needed(x.l)), must(turn.Turns(x.l))
		if want := x.needed(); !slices.Equal(needed, want) {
			t.Errorf("Needed of %v: %v, want %v", x.l, needed, want)
		}
		if want := x.turns(); !slices.Equal(turns, want) {
			t.Errorf("Turns of %v: %v, want %v", x.l, turns, want)
		}
		if len(turns) != len(needed)-1 {
			t.Errorf("%v: %v are needed, turns are %v", x.l, needed, turns)
			continue
		}
		for i, k := range needed[1:] {
			if x.l[needed[i]].Rate >= x.l[k].Rate {
				t.Errorf("%v: the rates of %v do not ascend", x.l, needed)
			}
		}
		for _, price := range x.prices {
			place, isTurn := slices.BinarySearchFunc(turns, price, compare)
			if !isTurn && !slices.Contains(x.best(price), needed[place]) {
				t.Errorf("%v: %d is not best at %v", x.l, needed[place], price)
			}
		}
		count(found, "all are needed", len(needed) == len(x.l))
		found[strconv.Itoa(len(needed))+" needed"]++
	}
	enough(t, found, 10, 10)
}

// P12.4 and P12.8, by the definitions.
func TestAllCovered(t *testing.T) {
	found := map[string]int{}
	for _, x := range samples() {
		for k, c := range x.l {
			want := two(0, 0, api.ErrClash)
			for i := range x.l {
				for j := range x.l {
					wantE := api.ErrProof
					switch {
					case i == k || j == k:
						wantE = api.ErrTwice
					case x.isCovered(k, i, j):
						wantE = api.OK
						if want.e != api.OK {
							want = two(i, j, api.OK)
						}
					}
					if e := turn.Proves(x.l, k, i, j); e != wantE {
						t.Errorf("Proves of %v: %d by %d and %d: %d, want %d", x.l, k, i, j, e, wantE)
					}
				}
			}
			r := two(turn.Why(x.l, k))
			if !r.same(want) || r.e == api.OK && (r.l[0] > r.l[1] || turn.Proves(x.l, k, r.l[0], r.l[1]) != api.OK) {
				t.Errorf("Why of %v: %d: %v, want %v", x.l, k, r, want)
			}
			isTwice := slices.Contains(x.l[k+1:], c) || !x.isFirst(k)
			if (r.e == api.OK) != (!x.isNeeded(k) || isTwice) {
				t.Errorf("%v: %d is covered: %v, is needed: %v, is there twice: %v", x.l, k, r, x.isNeeded(k), isTwice)
			}
			count(found, "covered", r.e == api.OK)
			count(found, "covered by one", r.e == api.OK && r.l[0] == r.l[1])
			count(found, "needed and covered", r.e == api.OK && x.isNeeded(k))
		}
	}
	enough(t, found, 6, 100)
}

// P12.5 and P12.9, by the definitions.
func TestAllFair(t *testing.T) {
	found := map[string]int{}
	for _, x := range samples() {
		var rates []int
		for rate := -turn.MaxRate; rate <= turn.MaxRate; rate++ {
			want := nothing(api.ErrLost)
			if x.has(rate) {
				want, rates = one(x.fair(rate), api.OK), append(rates, rate)
			}
			if r := one(turn.Fair(x.l, rate)); !r.same(want) {
				t.Errorf("Fair of %v: %d: %v, want %v", x.l, rate, r, want)
			}
		}
		needed := must(turn.Needed(x.l))
		for k, c := range x.l {
			fair, isNeeded := must(turn.Fair(x.l, c.Rate)), slices.Contains(needed, k)
			if compare(fair, whole(c.Fixed)) < 0 || isNeeded && fair != whole(c.Fixed) {
				t.Errorf("%v: the fair part of the rate of %d is %v", x.l, k, fair)
			}
			count(found, "just fair", fair == whole(c.Fixed))
			count(found, "whole", fair.Den == 1)
		}
		for _, price := range x.givable() {
			left := func(rate int) turn.Frac { return sum(must(turn.Fair(x.l, rate)), times(rate, price)) }
			most := left(rates[0])
			for _, rate := range rates {
				most = slices.MaxFunc([]turn.Frac{most, left(rate)}, compare)
			}
			if f := must(turn.Worth(x.l, price)); f != most {
				t.Errorf("%v is worth %v at %v, by fair parts %v", x.l, f, price, most)
			}
		}
	}
	enough(t, found, 4, 100)
}

// P12.10
func TestBowl(t *testing.T) {
	r := rand.New(rand.NewPCG(12, 2))
	found := map[string]int{}
	for _, x := range samples() {
		for range 5 {
			den := 1 + r.IntN(turn.MaxPrice/2)
			a, b := from(r, turn.MaxPrice/2), from(r, turn.MaxPrice/2)
			if r.IntN(2) == 0 {
				a, b, den = from(r, 9), from(r, 9), 1+r.IntN(3)
			}
			ends := sum(must(turn.Worth(x.l, turn.Frac{a, den})), must(turn.Worth(x.l, turn.Frac{b, den})))
			middle := must(turn.Worth(x.l, turn.Frac{a + b, 2 * den}))
			if compare(middle, half(ends)) > 0 {
				t.Errorf("%v is worth %v halfway between %d/%d and %d/%d, and %v at both", x.l, middle, a, den, b, den, ends)
			}
			count(found, "worth just half", middle == half(ends))
		}
		for rate := -turn.MaxRate; rate <= turn.MaxRate; rate++ {
			for other := rate + 2; other <= turn.MaxRate && x.has(rate) && x.has(other); other += 2 {
				ends := sum(must(turn.Fair(x.l, rate)), must(turn.Fair(x.l, other)))
				middle := must(turn.Fair(x.l, (rate+other)/2))
				if compare(middle, half(ends)) < 0 {
					t.Errorf("%v: fair parts of %d and %d are together %v, and halfway %v", x.l, rate, other, ends, middle)
				}
				count(found, "fair just half", middle == half(ends))
			}
		}
	}
	enough(t, found, 4, 100)
}

// summed returns the book of all sums of contracts of two books, each sum once.
func summed(l, m []turn.Contract) sample {
	in := map[turn.Contract]bool{}
	for _, a := range l {
		for _, b := range m {
			in[turn.Contract{a.Fixed + b.Fixed, a.Rate + b.Rate}] = true
		}
	}
	return with(slices.SortedFunc(maps.Keys(in), func(a, b turn.Contract) int {
		return cmp.Or(cmp.Compare(a.Fixed, b.Fixed), cmp.Compare(a.Rate, b.Rate))
	}))
}

// pairsOfBooks returns all two books of up to two small contracts, and some of up to eight.
func pairsOfBooks() [][2][]turn.Contract {
	var out [][2][]turn.Contract
	for _, l := range slices.Concat(small(1), small(2)) {
		for _, m := range slices.Concat(small(1), small(2)) {
			out = append(out, [2][]turn.Contract{l, m})
		}
	}
	r := rand.New(rand.NewPCG(12, 3))
	for range 300 {
		out = append(out, [2][]turn.Contract{drawn(r), drawn(r)})
	}
	for range 20 {
		out = append(out, [2][]turn.Contract{bent(r, 8, 0), bent(r, 8, 0)})
	}
	return out
}

// P12.6 and P12.11, by the definitions.
func TestTwoBooks(t *testing.T) {
	found := map[string]int{}
	for _, books := range pairsOfBooks() {
		l, m := books[0], books[1]
		both, all := must(turn.Both(l, m)), summed(l, m)
		var want []turn.Contract
		for _, k := range all.needed() {
			want = append(want, all.l[k])
		}
		if !slices.Equal(both, want) {
			t.Errorf("Both of %v and %v: %v, want %v", l, m, both, want)
			continue
		}
		for _, price := range slices.Concat(with(l).givable(), with(m).givable()) {
			f := sum(must(turn.Worth(l, price)), must(turn.Worth(m, price)))
			if n := most(both, price); ratio(n, price.Den) != f {
				t.Errorf("Both of %v and %v: at %v worth %d by %d, want %v", l, m, price, n, price.Den, f)
			}
		}
		turns := must(turn.Turns(l))
		same := slices.DeleteFunc(must(turn.Turns(m)), func(price turn.Frac) bool { return !slices.Contains(turns, price) })
		if many := len(must(turn.Needed(l))) + len(must(turn.Needed(m))) - 1 - len(same); len(both) != many {
			t.Errorf("Both of %v and %v: %v, want so many: %d", l, m, both, many)
		}
		count(found, "turns in common", len(same) > 0)
		count(found, "more than in a book", len(both) > turn.MaxContracts)
		count(found, "beyond the numbers of a book", turn.Check(both[len(both)-1:]) != api.OK)
	}
	enough(t, found, 6, 20)
}

// raised returns contracts whose fixed parts and rates are greater by some numbers.
func raised(l []turn.Contract, fixed, rate int) []turn.Contract {
	var out []turn.Contract
	for _, c := range l {
		out = append(out, turn.Contract{c.Fixed + fixed, c.Rate + rate})
	}
	return out
}

// P12.12
func TestOtherNames(t *testing.T) {
	r := rand.New(rand.NewPCG(12, 4))
	found := map[string]int{}
	for _, x := range samples() {
		needed, turns := must(turn.Needed(x.l)), must(turn.Turns(x.l))
		other := shuffled(r, x.l)
		if l := must(turn.Needed(other)); len(l) != len(needed) {
			t.Errorf("%v are needed of %v, %v of %v", needed, x.l, l, other)
		}
		if l := must(turn.Turns(other)); !slices.Equal(l, turns) {
			t.Errorf("turns of %v are %v, those of %v %v", x.l, turns, other, l)
		}
		by := from(r, 20)
		richer, steeper := raised(x.l, by, 0), raised(x.l, 0, by/5)
		if turn.Check(richer) == api.OK {
			if l, m := must(turn.Needed(richer)), must(turn.Turns(richer)); !slices.Equal(l, needed) || !slices.Equal(m, turns) {
				t.Errorf("%v: %v %v, with %d more: %v %v", x.l, needed, turns, by, l, m)
			}
			for _, price := range x.givable() {
				if f, g := must(turn.Worth(x.l, price)), must(turn.Worth(richer, price)); sum(f, whole(by)) != g {
					t.Errorf("%v is worth %v at %v, with %d more %v", x.l, f, price, by, g)
				}
			}
			found["richer"]++
		}
		if turn.Check(steeper) == api.OK {
			if l := must(turn.Needed(steeper)); !slices.Equal(l, needed) {
				t.Errorf("%v are needed of %v, %v of %v", needed, x.l, l, steeper)
			}
			found["steeper"]++
		}
	}
	enough(t, found, 2, 500)
}

// P12.13
func TestMoreHelps(t *testing.T) {
	r := rand.New(rand.NewPCG(12, 5))
	found := map[string]int{}
	for _, x := range samples() {
		if len(x.l) == turn.MaxContracts {
			continue
		}
		more := slices.Concat(x.l, drawn(r)[:1])
		if r.IntN(3) == 0 {
			more = slices.Concat(x.l, []turn.Contract{{turn.MaxFixed, from(r, turn.MaxRate)}})
		}
		for _, price := range with(more).givable() {
			before, after := must(turn.Worth(x.l, price)), must(turn.Worth(more, price))
			if compare(after, before) < 0 {
				t.Errorf("%v is worth %v at %v, with one more %v: %v", x.l, before, price, more, after)
			}
			count(found, "worth more", before != after)
		}
		for rate := -turn.MaxRate; rate <= turn.MaxRate; rate++ {
			if !x.has(rate) {
				continue
			}
			before, after := must(turn.Fair(x.l, rate)), must(turn.Fair(more, rate))
			if compare(after, before) < 0 {
				t.Errorf("the fair part of %d is %v by %v, with one more %v by %v", rate, before, x.l, after, more)
			}
			count(found, "fairer", before != after)
		}
	}
	enough(t, found, 4, 500)
}
