package turn_test

import (
	"math"
	"slices"
	"strconv"
	"strings"
	"testing"

	"breeze/api"
	"breeze/turn"
)

func list(l ...int) []int { return l }

// must is a result that may not be refused.
func must[T any](result T, e api.Errno) T {
	if e != api.OK {
		panic(e)
	}
	return result
}

// of reads contracts as the chapter's examples write them.
func of(text string) []turn.Contract {
	var l []turn.Contract
	for _, part := range strings.Split(text, ",") {
		words := strings.Fields(part)
		if len(words) == 0 {
			continue
		}
		l = append(l, turn.Contract{number(words[0]), number(words[1])})
	}
	return l
}

// fracs reads fractions as the chapter's examples write them.
func fracs(text string) []turn.Frac {
	var l []turn.Frac
	for _, word := range strings.Fields(text) {
		num, den, _ := strings.Cut(word, "/")
		l = append(l, turn.Frac{number(num), number(den)})
	}
	return l
}

// frac reads one fraction.
func frac(text string) turn.Frac { return fracs(text)[0] }

func number(text string) int {
	n, err := strconv.Atoi(text)
	if err != nil {
		panic(err)
	}
	return n
}

// equal are so many equal contracts.
func equal(many int, c turn.Contract) []turn.Contract {
	return slices.Repeat([]turn.Contract{c}, many)
}

// The books L and M of the chapter's examples.

func bookL() []turn.Contract { return of("0 0, -2 1, -6 2, -3 1") }

func bookM() []turn.Contract { return of("0 0, -3 1, -4 2") }

// lone has one contract.
func lone() []turn.Contract { return of("5 -3") }

// alike has contracts of one rate, some of them equal.
func alike() []turn.Contract { return of("3 2, 7 2, -1 2, 7 2") }

// greatest has as many contracts as there can be, the least and the greatest of them, and all are needed.
func greatest() []turn.Contract {
	return of("-100 10, 60 5, 100 0, -100 -10, 20 7, 99 -1, 97 2, 40 -6")
}

// meeting has four contracts that are worth the same at the price 1/2, and two of them are needed.
func meeting() []turn.Contract { return of("1 1, 0 3, 2 -1, 3 -3") }

// twins has contracts that are there twice, needed ones and others.
func twins() []turn.Contract { return of("-3 1, -6 2, 0 0, -6 2, 0 0, -2 1, -2 1, -3 1") }

func valid() [][]turn.Contract {
	return [][]turn.Contract{bookL(), bookM(), lone(), alike(), greatest(), meeting(), twins()}
}

// P12.1

var checks = []struct {
	name string
	l    []turn.Contract
	want api.Errno
}{
	{"L", bookL(), api.OK},
	{"M", bookM(), api.OK},
	{"one contract", lone(), api.OK},
	{"equal rates", alike(), api.OK},
	{"eight contracts", greatest(), api.OK},
	{"contracts twice", twins(), api.OK},
	{"eight equal contracts", equal(8, turn.Contract{}), api.OK},
	{"the greatest contract", of("100 10"), api.OK},
	{"the least contract", of("-100 -10"), api.OK},
	{"no contracts", nil, api.ErrEmpty},
	{"an empty list", []turn.Contract{}, api.ErrEmpty},
	{"nine contracts", equal(9, turn.Contract{}), api.ErrMany},
	{"nine contracts, the last one too great", append(greatest(), turn.Contract{101, 0}), api.ErrMany},
	{"nine contracts, the first one too great", append(of("0 11"), greatest()...), api.ErrMany},
	{"a thousand contracts", equal(1000, turn.Contract{101, 11}), api.ErrMany},
	{"a fixed part of 101", of("101 0"), api.ErrRange},
	{"a fixed part of -101", of("-101 0"), api.ErrRange},
	{"a rate of 11", of("0 11"), api.ErrRange},
	{"a rate of -11", of("0 -11"), api.ErrRange},
	{"both too great", of("101 11"), api.ErrRange},
	{"one too great, the other too small", of("101 -11"), api.ErrRange},
	{"the greatest fixed part of all", []turn.Contract{{math.MaxInt, 0}}, api.ErrRange},
	{"the least fixed part of all", []turn.Contract{{math.MinInt, 0}}, api.ErrRange},
	{"the greatest rate of all", []turn.Contract{{0, math.MaxInt}}, api.ErrRange},
	{"the least rate of all", []turn.Contract{{0, math.MinInt}}, api.ErrRange},
	{"the second contract", of("0 0, 0 11"), api.ErrRange},
	{"the last of eight contracts", append(greatest()[:7], turn.Contract{-101, 3}), api.ErrRange},
	{"the first of eight contracts", append(of("3 -11"), greatest()[:7]...), api.ErrRange},
}

func TestCheck(t *testing.T) {
	for _, c := range checks {
		if e := turn.Check(c.l); e != c.want {
			t.Errorf("%s: %d, want %d", c.name, e, c.want)
		}
	}
}

// result is what a function returns: numbers, fractions, contracts, and an error.
type result struct {
	l         []int
	fracs     []turn.Frac
	contracts []turn.Contract
	e         api.Errno
}

func (r result) same(other result) bool {
	return slices.Equal(r.l, other.l) && slices.Equal(r.fracs, other.fracs) && slices.Equal(r.contracts, other.contracts) && r.e == other.e
}

// isZero tells whether there is nothing but an error.
func (r result) isZero() bool { return len(r.l) == 0 && len(r.fracs) == 0 && len(r.contracts) == 0 }

func several(l []int, e api.Errno) result             { return result{l: l, e: e} }
func fractions(l []turn.Frac, e api.Errno) result     { return result{fracs: l, e: e} }
func contracts(l []turn.Contract, e api.Errno) result { return result{contracts: l, e: e} }
func nothing(e api.Errno) result                      { return result{e: e} }

// one is a fraction, unless it is the zero value.
func one(f turn.Frac, e api.Errno) result {
	if f == (turn.Frac{}) {
		return nothing(e)
	}
	return fractions([]turn.Frac{f}, e)
}

// two are numbers, unless they are zero values beside an error.
func two(i, j int, e api.Errno) result {
	if i == 0 && j == 0 && e != api.OK {
		return nothing(e)
	}
	return several(list(i, j), e)
}

// all returns what each function says.
func all(l, m []turn.Contract, price turn.Frac, k, i, j, rate int) map[string]result {
	return map[string]result{
		"Check":  nothing(turn.Check(l)),
		"Worth":  one(turn.Worth(l, price)),
		"Best":   several(turn.Best(l, price)),
		"Needed": several(turn.Needed(l)),
		"Turns":  fractions(turn.Turns(l)),
		"Why":    two(turn.Why(l, k)),
		"Proves": nothing(turn.Proves(l, k, i, j)),
		"Fair":   one(turn.Fair(l, rate)),
		"Both":   contracts(turn.Both(l, m)),
	}
}

// somePrices are prices, and fractions that are none.
var somePrices = append(fracs("0/1 3/1 -5/2 4/2 1000/1000 -1000/1 0/1000 1/0 0/0 0/-1 1001/1 -1001/1 1/1001 1001/0"), turn.Frac{math.MaxInt, math.MinInt}, turn.Frac{math.MinInt, 1}, turn.Frac{1, math.MaxInt}, turn.Frac{math.MaxInt, 0})

// someNumbers are contracts of some lists, rates, and numbers that are none of any.
var someNumbers = list(0, 1, 2, 7, 8, 10, 11, -1, -10, -11, 1000, math.MaxInt, math.MinInt)

// All functions return Check's error before any of their own, and Both returns that of l before that of m.
func TestCheckComesFirst(t *testing.T) {
	for _, c := range checks {
		if c.want == api.OK {
			continue
		}
		for i, price := range somePrices {
			for k := range 5 {
				m := checks[(i+3*k)%len(checks)].l
				n := func(more int) int { return someNumbers[(i+more*k)%len(someNumbers)] }
				for name, r := range all(c.l, m, price, n(0), n(1), n(2), n(3)) {
					if !r.isZero() || r.e != c.want {
						t.Errorf("%s of %s: %v, want %d", name, c.name, r, c.want)
					}
				}
			}
		}
		for _, l := range valid() {
			if r := contracts(turn.Both(l, c.l)); !r.isZero() || r.e != c.want {
				t.Errorf("Both of %v and %s: %v, want %d", l, c.name, r, c.want)
			}
		}
		for _, other := range checks {
			if r := contracts(turn.Both(c.l, other.l)); !r.isZero() || r.e != c.want {
				t.Errorf("Both of %s and %s: %v, want %d", c.name, other.name, r, c.want)
			}
		}
	}
}

// P12.2

func TestPrices(t *testing.T) {
	for _, x := range []struct {
		l            []turn.Contract
		price, worth string
		best         []int
	}{
		{bookL(), "3/1", "1/1", list(1)},
		{bookL(), "4/2", "0/1", list(0, 1)},
		{bookL(), "5/2", "1/2", list(1)},
		{bookL(), "2/1", "0/1", list(0, 1)},
		{bookL(), "5/1", "4/1", list(2)},
		{bookL(), "0/7", "0/1", list(0)},
		{bookL(), "4/1", "2/1", list(1, 2)},
		{bookL(), "12/3", "2/1", list(1, 2)},
		{bookL(), "-1/3", "0/1", list(0)},
		{bookL(), "7/3", "1/3", list(1)},
		{bookL(), "1000/1", "1994/1", list(2)},
		{bookL(), "1000/1000", "0/1", list(0)},
		{bookL(), "-1000/1", "0/1", list(0)},
		{bookL(), "1/1000", "0/1", list(0)},
		{bookM(), "2/1", "0/1", list(0, 2)},
		{bookM(), "999/499", "2/499", list(2)},
		{bookM(), "999/500", "0/1", list(0)},
		{lone(), "0/1", "5/1", list(0)},
		{lone(), "5/3", "0/1", list(0)},
		{lone(), "-1/9", "16/3", list(0)},
		{lone(), "8/3", "-3/1", list(0)},
		{lone(), "9/4", "-7/4", list(0)},
		{lone(), "6/4", "1/2", list(0)},
		{alike(), "0/1", "7/1", list(1, 3)},
		{alike(), "-7/2", "0/1", list(1, 3)},
		{alike(), "-1000/1", "-1993/1", list(1, 3)},
		{greatest(), "1000/1", "9900/1", list(0)},
		{greatest(), "-1000/1", "9900/1", list(3)},
		{greatest(), "1/1000", "100/1", list(2)},
		{greatest(), "37/3", "365/3", list(1, 6)},
		{of("100 10"), "999/1000", "10999/100", list(0)},
		{of("-100 -10"), "1000/1", "-10100/1", list(0)},
		// all that are best, also those that are not needed, and equal ones
		{meeting(), "1/2", "3/2", list(0, 1, 2, 3)},
		{meeting(), "-1/2", "9/2", list(3)},
		{twins(), "2/1", "0/1", list(2, 4, 5, 6)},
		{twins(), "3/1", "1/1", list(5, 6)},
		{twins(), "4/1", "2/1", list(1, 3, 5, 6)},
	} {
		if f, e := turn.Worth(x.l, frac(x.price)); f != frac(x.worth) || e != api.OK {
			t.Errorf("Worth of %v: %s: %v %d, want %s", x.l, x.price, f, e, x.worth)
		}
		if l, e := turn.Best(x.l, frac(x.price)); !slices.Equal(l, x.best) || e != api.OK {
			t.Errorf("Best of %v: %s: %v %d, want %v", x.l, x.price, l, e, x.best)
		}
	}
}

func TestNoPrices(t *testing.T) {
	for _, l := range valid() {
		for i, price := range somePrices {
			want := api.ErrRange
			if i < 7 {
				want = api.OK
			}
			worth, best := one(turn.Worth(l, price)), several(turn.Best(l, price))
			if worth.e != want || best.e != want || (want == api.OK) == worth.isZero() || (want == api.OK) == best.isZero() {
				t.Errorf("%v: %v: %v, %v, want %d", l, price, worth, best, want)
			}
		}
	}
}

// P12.3

func TestNeeded(t *testing.T) {
	for _, x := range []struct {
		l      []turn.Contract
		needed []int
		turns  string
	}{
		{bookL(), list(0, 1, 2), "2/1 4/1"},
		{bookM(), list(0, 2), "2/1"},
		{lone(), list(0), ""},
		{alike(), list(1), ""},
		{greatest(), list(3, 7, 5, 2, 6, 1, 4, 0), "-35/1 -59/5 -1/1 3/2 37/3 20/1 40/1"},
		{meeting(), list(3, 1), "1/2"},
		{twins(), list(2, 5, 1), "2/1 4/1"},
		{equal(8, turn.Contract{100, 10}), list(0), ""},
		{of("0 0"), list(0), ""},
		{of("0 1, 0 0"), list(1, 0), "0/1"},
		{of("1 0, 0 1"), list(0, 1), "1/1"},
		{of("0 0, 1 1"), list(0, 1), "-1/1"},
		{of("0 1, 0 1, 0 0, 0 0"), list(2, 0), "0/1"},
		{of("100 10, -100 -10"), list(1, 0), "-10/1"},
		{of("-100 10, 100 9"), list(1, 0), "200/1"},
		{of("3 4, 1 -2"), list(1, 0), "-1/3"},
		{of("0 -2, 5 4, 3 0"), list(0, 2, 1), "-3/2 -1/2"},
		// a price from 2 to 7/3, at which no whole number is
		{of("0 0, -4 2, -11 5"), list(0, 1, 2), "2/1 7/3"},
		{of("0 0, -3 2, -7 5"), list(0, 2), "7/5"},
		{of("0 0, -5 4, -12 9"), list(0, 1, 2), "5/4 7/5"},
		// contracts that are best at a turn alone
		{of("0 0, -2 1, -4 2"), list(0, 2), "2/1"},
		{of("0 0, -1 1, -4 2"), list(0, 1, 2), "1/1 3/1"},
		{of("-1 0, 0 -1, -2 1, -2 1"), list(1, 2), "1/1"},
		// contracts that have the smallest or the greatest rate, but not the greatest fixed part with it
		{of("1 0, 2 0, 1 3, 0 3"), list(1, 2), "1/3"},
	} {
		if r := several(turn.Needed(x.l)); !r.same(several(x.needed, api.OK)) {
			t.Errorf("Needed of %v: %v, want %v", x.l, r, x.needed)
		}
		if r := fractions(turn.Turns(x.l)); !r.same(fractions(fracs(x.turns), api.OK)) {
			t.Errorf("Turns of %v: %v, want %s", x.l, r, x.turns)
		}
	}
}

// P12.4

func TestWhy(t *testing.T) {
	for _, x := range []struct {
		l    []turn.Contract
		k    int
		want result
	}{
		{bookL(), 3, several(list(0, 1), api.OK)},
		{bookL(), 1, nothing(api.ErrClash)},
		{bookL(), 0, nothing(api.ErrClash)},
		{bookL(), 2, nothing(api.ErrClash)},
		{bookL(), 4, nothing(api.ErrNone)},
		{bookL(), -1, nothing(api.ErrNone)},
		{bookL(), math.MaxInt, nothing(api.ErrNone)},
		{bookL(), math.MinInt, nothing(api.ErrNone)},
		{bookM(), 1, several(list(0, 2), api.OK)},
		{bookM(), 3, nothing(api.ErrNone)},
		{lone(), 0, nothing(api.ErrClash)},
		{lone(), 1, nothing(api.ErrNone)},
		{alike(), 0, several(list(1, 1), api.OK)},
		{alike(), 1, several(list(0, 3), api.OK)},
		{alike(), 2, several(list(0, 0), api.OK)},
		{alike(), 3, several(list(0, 1), api.OK)},
		{meeting(), 0, several(list(1, 2), api.OK)},
		{meeting(), 1, nothing(api.ErrClash)},
		{meeting(), 2, several(list(0, 3), api.OK)},
		{meeting(), 3, nothing(api.ErrClash)},
		{twins(), 0, several(list(1, 2), api.OK)},
		{twins(), 1, several(list(0, 3), api.OK)},
		{twins(), 2, several(list(0, 4), api.OK)},
		{twins(), 5, several(list(0, 6), api.OK)},
		{twins(), 7, several(list(0, 0), api.OK)},
		{twins(), 8, nothing(api.ErrNone)},
		{of("0 0, -3 2, -7 5"), 1, several(list(0, 2), api.OK)},
		{of("0 0, -4 2, -11 5"), 1, nothing(api.ErrClash)},
	} {
		if r := two(turn.Why(x.l, x.k)); !r.same(x.want) {
			t.Errorf("Why of %v: %d: %v, want %v", x.l, x.k, r, x.want)
		}
	}
}

func TestProves(t *testing.T) {
	for _, x := range []struct {
		l       []turn.Contract
		k, i, j int
		want    api.Errno
	}{
		{bookL(), 3, 0, 2, api.OK},
		{bookL(), 3, 2, 0, api.OK},
		{bookL(), 3, 2, 2, api.ErrProof},
		{bookL(), 3, 0, 0, api.ErrProof},
		{bookL(), 3, 1, 1, api.OK},
		{bookL(), 3, 0, 1, api.OK},
		{bookL(), 3, 2, 1, api.OK},
		{bookL(), 1, 0, 2, api.ErrProof},
		{bookL(), 1, 3, 3, api.ErrProof},
		{bookL(), 1, 0, 3, api.ErrProof},
		{bookL(), 0, 1, 2, api.ErrProof},
		{bookL(), 2, 1, 3, api.ErrProof},
		{bookL(), 3, 3, 1, api.ErrTwice},
		{bookL(), 3, 1, 3, api.ErrTwice},
		{bookL(), 3, 3, 3, api.ErrTwice},
		{bookL(), 0, 0, 2, api.ErrTwice},
		{bookL(), 4, 0, 2, api.ErrNone},
		{bookL(), 3, 4, 2, api.ErrNone},
		{bookL(), 3, 0, 4, api.ErrNone},
		{bookL(), -1, 0, 2, api.ErrNone},
		{bookL(), 3, -1, 2, api.ErrNone},
		{bookL(), 3, 0, -1, api.ErrNone},
		{bookL(), math.MaxInt, 0, 2, api.ErrNone},
		{bookL(), 3, math.MinInt, 2, api.ErrNone},
		{bookL(), 3, 0, math.MaxInt, api.ErrNone},
		// no such contract comes before a contract twice
		{bookL(), 3, 3, 4, api.ErrNone},
		{bookL(), 3, 4, 3, api.ErrNone},
		{bookL(), 4, 4, 4, api.ErrNone},
		{bookL(), -1, -1, 0, api.ErrNone},
		{bookM(), 1, 0, 2, api.OK},
		{bookM(), 1, 2, 0, api.OK},
		{lone(), 0, 0, 0, api.ErrTwice},
		{lone(), 0, 0, 1, api.ErrNone},
		{alike(), 1, 3, 3, api.OK},
		{alike(), 1, 0, 3, api.OK},
		{alike(), 1, 0, 2, api.ErrProof},
		{alike(), 0, 2, 2, api.ErrProof},
		{alike(), 0, 2, 3, api.OK},
		{meeting(), 0, 1, 2, api.OK},
		{meeting(), 0, 3, 1, api.OK},
		{meeting(), 0, 2, 3, api.ErrProof},
		{meeting(), 0, 1, 1, api.ErrProof},
		{meeting(), 1, 0, 2, api.ErrProof},
		{twins(), 5, 6, 6, api.OK},
		{twins(), 5, 1, 6, api.OK},
		{twins(), 5, 1, 2, api.ErrProof},
		{twins(), 0, 7, 7, api.OK},
		{of("0 0, -3 2, -7 5"), 1, 0, 2, api.OK},
		{of("0 0, -4 2, -11 5"), 1, 0, 2, api.ErrProof},
	} {
		if e := turn.Proves(x.l, x.k, x.i, x.j); e != x.want {
			t.Errorf("Proves of %v: %d by %d and %d: %d, want %d", x.l, x.k, x.i, x.j, e, x.want)
		}
	}
}

// P12.5

func TestFair(t *testing.T) {
	for _, x := range []struct {
		l           []turn.Contract
		first, last int
		want        string
	}{
		{bookL(), 0, 2, "0/1 -2/1 -6/1"},
		{bookM(), 0, 2, "0/1 -2/1 -4/1"},
		{lone(), -3, -3, "5/1"},
		{alike(), 2, 2, "7/1"},
		{greatest(), -10, 10, "-100/1 -65/1 -30/1 5/1 40/1 259/5 318/5 377/5 436/5 99/1 100/1 197/2 97/1 254/3 217/3 60/1 40/1 20/1 -20/1 -60/1 -100/1"},
		{meeting(), -3, 3, "3/1 5/2 2/1 3/2 1/1 1/2 0/1"},
		{twins(), 0, 2, "0/1 -2/1 -6/1"},
		{of("0 0, -1 3"), 0, 3, "0/1 -1/3 -2/3 -1/1"},
		{of("-1 3, 0 0, 1 -3"), -3, 3, "1/1 2/3 1/3 0/1 -1/3 -2/3 -1/1"},
		{of("100 10, -100 9"), 9, 10, "-100/1 100/1"},
	} {
		want := fracs(x.want)
		rates := list(math.MaxInt, math.MinInt)
		for rate := -12; rate <= 12; rate++ {
			rates = append(rates, rate)
		}
		for _, rate := range rates {
			r, wantR := one(turn.Fair(x.l, rate)), nothing(api.ErrLost)
			switch {
			case rate < -turn.MaxRate || rate > turn.MaxRate:
				wantR.e = api.ErrRange
			case x.first <= rate && rate <= x.last:
				wantR = one(want[rate-x.first], api.OK)
			}
			if !r.same(wantR) {
				t.Errorf("Fair of %v: %d: %v, want %v", x.l, rate, r, wantR)
			}
		}
	}
}

// P12.6

func TestBoth(t *testing.T) {
	doubled := of("-200 -20, 80 -12, 198 -2, 200 0, 194 4, 120 10, 40 14, -200 20")
	for _, x := range []struct{ l, m, want []turn.Contract }{
		{bookL(), bookM(), of("0 0, -6 3, -10 4")},
		{bookM(), bookL(), of("0 0, -6 3, -10 4")},
		{bookL(), bookL(), of("0 0, -4 2, -12 4")},
		{bookL(), twins(), of("0 0, -4 2, -12 4")},
		{twins(), bookM(), of("0 0, -6 3, -10 4")},
		{lone(), lone(), of("10 -6")},
		{alike(), lone(), of("12 -1")},
		{alike(), alike(), of("14 4")},
		{bookL(), lone(), of("5 -3, 3 -2, -1 -1")},
		{lone(), bookL(), of("5 -3, 3 -2, -1 -1")},
		{of("0 0, -1 1"), of("0 0, -2 1"), of("0 0, -1 1, -3 2")},
		{of("0 0, 1 1"), of("0 0, 1 -1"), of("1 -1, 2 0, 1 1")},
		// more contracts, and greater ones, than there can be in one book
		{greatest(), bookM(), of("-100 -10, 40 -6, 99 -1, 100 0, 97 2, 93 4, 56 7, 16 9, -104 12")},
		{greatest(), greatest(), doubled},
	} {
		if r := contracts(turn.Both(x.l, x.m)); !r.same(contracts(x.want, api.OK)) {
			t.Errorf("Both of %v and %v: %v, want %v", x.l, x.m, r, x.want)
		}
	}
}

// P1: each function ends, does not panic, and returns the same for the same arguments.
func TestAllArguments(t *testing.T) {
	samples := valid()
	for _, c := range checks {
		samples = append(samples, c.l)
	}
	for n, l := range samples {
		for p, price := range somePrices {
			for i, k := range someNumbers {
				m := samples[(n+p+i)%len(samples)]
				other, third, rate := someNumbers[(i+p)%len(someNumbers)], someNumbers[(i+n)%len(someNumbers)], someNumbers[(i+n+p)%len(someNumbers)]
				a, b := all(l, m, price, k, other, third, rate), all(l, m, price, k, other, third, rate)
				for name := range a {
					if !a[name].same(b[name]) || a[name].e != api.OK && !a[name].isZero() {
						t.Errorf("%s of %v, %v, %v, %d, %d, %d, %d: %v, then %v", name, l, m, price, k, other, third, rate, a[name], b[name])
					}
				}
			}
		}
	}
}

// R4: what a caller does with arguments and results changes no results, and arguments stay as they are.
func TestMemory(t *testing.T) {
	found := map[string]int{}
	behind := turn.Contract{77, 7}
	// loose returns a copy of contracts, behind which another one lies in the memory.
	loose := func(l []turn.Contract) []turn.Contract { return append(slices.Clip(l), behind)[:len(l)] }
	isAsBefore := func(l, before []turn.Contract) bool {
		return slices.Equal(l[:len(l)+1], append(slices.Clip(before), behind))
	}
	for _, originals := range [][2][]turn.Contract{{bookL(), bookM()}, {greatest()[:6], bookL()}, {twins()[:7], meeting()}} {
		l, m := originals[0], originals[1]
		for round := range 2 {
			a, b := loose(l), loose(m)
			results := all(a, b, frac("5/2"), 3, 1, 2, 1)
			if !isAsBefore(a, l) || !isAsBefore(b, m) {
				t.Errorf("an argument was changed: %v, %v", a, b)
			}
			for _, other := range [][]turn.Contract{a, b} {
				for i := range other {
					other[i] = behind
				}
			}
			for name, want := range all(l, m, frac("5/2"), 3, 1, 2, 1) {
				r := results[name]
				if !r.same(want) {
					t.Errorf("%s of %v and %v, call %d: %v, want %v", name, l, m, round+1, r, want)
				}
				for i := range r.l[:cap(r.l)] {
					r.l[:cap(r.l)][i] = 77
					found[name]++
				}
				for i := range r.fracs[:cap(r.fracs)] {
					r.fracs[:cap(r.fracs)][i] = turn.Frac{7, 7}
					found[name]++
				}
				for i := range r.contracts[:cap(r.contracts)] {
					r.contracts[:cap(r.contracts)][i] = behind
					found[name]++
				}
			}
		}
	}
	for _, name := range []string{"Best", "Needed", "Turns", "Both"} {
		if found[name] == 0 {
			t.Errorf("not all lists came: %v", found)
		}
	}
}
