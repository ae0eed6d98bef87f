package tip_test

import (
	"maps"
	"math"
	"slices"
	"testing"

	"breeze/api"
	"breeze/tip"
)

func list(l ...int) []int { return l }

func lists(l ...[]int) [][]int { return l }

func sameLists(a, b [][]int) bool { return slices.EqualFunc(a, b, slices.Equal[[]int]) }

// must is a result that may not be refused.
func must[T any](result T, e api.Errno) T {
	if e != api.OK {
		panic(e)
	}
	return result
}

// equal are so many equal numbers.
func equal(many, n int) []int { return slices.Repeat(list(n), many) }

func market(loads []int, lanes ...[3]int) tip.Market { return tip.Market{Loads: loads, Lanes: lanes} }

func lane(a, b, length int) [3]int { return [3]int{a, b, length} }

// row has corners in a row, one after the other, with lanes of one length.
func row(length int, loads ...int) tip.Market {
	m := market(loads)
	for i := range len(loads) - 1 {
		m.Lanes = append(m.Lanes, lane(i, i+1, length))
	}
	return m
}

// star has lanes of one length from corner 0 to all others.
func star(length int, loads ...int) tip.Market {
	m := market(loads)
	for i := range len(loads) - 1 {
		m.Lanes = append(m.Lanes, lane(0, i+1, length))
	}
	return m
}

// The markets T, S and U of the chapter's examples.

func marketT() tip.Market { return row(1, 1, 0, 0, 3) }

func marketS() tip.Market {
	return market(list(0, 1, 1, 1), lane(0, 1, 1), lane(0, 2, 2), lane(0, 3, 3))
}

func marketU() tip.Market { return row(5, 1, 1) }

// one has a single corner.
func one() tip.Market { return row(1, 4) }

// idle has no loads.
func idle() tip.Market { return row(2, 0, 0, 0) }

// branched has lanes that branch twice; its corners and lanes are in no order.
//
//	6 -4- 2 -1- 4 -3- 1
//	      |     |
//	      2     9
//	      |     |
//	      5     0 -1- 3
func branched() tip.Market {
	return market(list(2, 1, 0, 5, 3, 2, 1),
		lane(2, 5, 2), lane(0, 4, 9), lane(1, 4, 3), lane(2, 4, 1), lane(2, 6, 4), lane(0, 3, 1))
}

// greatest has as many corners, as many loads and as long lanes as there can be.
func greatest() tip.Market { return row(9, equal(8, 9)...) }

func valid() []tip.Market {
	return []tip.Market{marketT(), marketS(), marketU(), one(), idle(), branched(), greatest(), star(9, equal(8, 9)...)}
}

// P9.1

var checks = []struct {
	name string
	m    tip.Market
	want api.Errno
}{
	{"T", marketT(), api.OK},
	{"S", marketS(), api.OK},
	{"U", marketU(), api.OK},
	{"one corner", one(), api.OK},
	{"one corner, and an empty list of lanes", tip.Market{Loads: list(0), Lanes: [][3]int{}}, api.OK},
	{"no loads at any corner", idle(), api.OK},
	{"lanes that branch twice", branched(), api.OK},
	{"eight corners", greatest(), api.OK},
	{"a star of eight corners", star(9, equal(8, 9)...), api.OK},
	{"the smallest length", row(1, 0, 9), api.OK},
	{"nothing", tip.Market{}, api.ErrEmpty},
	{"empty lists", tip.Market{Loads: []int{}, Lanes: [][3]int{}}, api.ErrEmpty},
	{"no loads, and a lane", market(nil, lane(0, 1, 5)), api.ErrEmpty},
	{"no loads, and a wrong lane", market(nil, lane(-1, 1, 0)), api.ErrEmpty},
	{"nine corners", row(1, equal(9, 1)...), api.ErrMany},
	{"nine corners without lanes", market(equal(9, 1)), api.ErrMany},
	{"nine corners and a wrong load", row(1, 1, 1, 1, 1, 1, 1, 1, 1, -1), api.ErrMany},
	{"a thousand corners", market(make([]int, 1000)), api.ErrMany},
	{"10 loads", row(1, 1, 10), api.ErrRange},
	{"-1 loads", row(1, -1, 1), api.ErrRange},
	{"the last load", row(1, 9, 9, 9, 9, 9, 9, 9, 10), api.ErrRange},
	{"the greatest number of loads", row(1, 1, math.MaxInt), api.ErrRange},
	{"the least number of loads", row(1, math.MinInt), api.ErrRange},
	{"a wrong load, and no lanes", market(list(1, 10)), api.ErrRange},
	{"a wrong load, and a wrong lane", market(list(-1, 1), lane(1, 0, 5)), api.ErrRange},
	{"no lanes", market(list(1, 1)), api.ErrShape},
	{"a lane too few", market(list(1, 1, 1), lane(0, 1, 1)), api.ErrShape},
	{"a lane too many", market(list(1, 1), lane(0, 1, 1), lane(0, 1, 1)), api.ErrShape},
	{"a ring of all corners", market(list(1, 1, 1), lane(0, 1, 1), lane(1, 2, 1), lane(0, 2, 1)), api.ErrShape},
	{"a lane of a single corner", market(list(1), lane(0, 1, 1)), api.ErrShape},
	{"a lane too many, and wrong ones", market(list(1, 1), lane(-1, 2, 0), lane(1, 0, 10)), api.ErrShape},
	{"a thousand lanes", market(list(1, 1), make([][3]int, 1000)...), api.ErrShape},
	{"lane from -1", market(list(1, 1), lane(-1, 1, 5)), api.ErrNone},
	{"lane from 2", market(list(1, 1), lane(2, 1, 5)), api.ErrNone},
	{"lane to 2", market(list(1, 1), lane(0, 2, 5)), api.ErrNone},
	{"lane to -1", market(list(1, 1), lane(0, -1, 5)), api.ErrNone},
	{"lane to the greatest number", market(list(1, 1), lane(0, math.MaxInt, 5)), api.ErrNone},
	{"lane from the least number", market(list(1, 1), lane(math.MinInt, 1, 5)), api.ErrNone},
	{"no corner, and a wrong length", market(list(1, 1), lane(0, 2, 0)), api.ErrNone},
	{"no corner, and a wrong order", market(list(1, 1), lane(2, 0, 10)), api.ErrNone},
	{"lane 1 0 5", market(list(1, 1), lane(1, 0, 5)), api.ErrOrder},
	{"lane from a corner to itself", market(list(1, 1), lane(1, 1, 5)), api.ErrOrder},
	{"wrong order and length", market(list(1, 1), lane(1, 0, 0)), api.ErrOrder},
	{"lane 0 1 0", market(list(1, 1), lane(0, 1, 0)), api.ErrRange},
	{"lane 0 1 10", market(list(1, 1), lane(0, 1, 10)), api.ErrRange},
	{"lane of the greatest length", market(list(1, 1), lane(0, 1, math.MaxInt)), api.ErrRange},
	{"lane of the least length", market(list(1, 1), lane(0, 1, math.MinInt)), api.ErrRange},
	// the first lane with an error decides
	{"a wrong length, then no corner", market(list(1, 1, 1), lane(0, 1, 0), lane(0, 3, 1)), api.ErrRange},
	{"no corner, then a wrong length", market(list(1, 1, 1), lane(0, 3, 1), lane(0, 1, 0)), api.ErrNone},
	{"a wrong order, then no corner", market(list(1, 1, 1), lane(1, 0, 1), lane(0, 3, 1)), api.ErrOrder},
	{"a wrong order, then a wrong length", market(list(1, 1, 1), lane(1, 0, 1), lane(0, 1, 0)), api.ErrOrder},
	{"a wrong length, then a wrong order", market(list(1, 1, 1), lane(0, 1, 10), lane(1, 0, 1)), api.ErrRange},
	{"the last lane", market(list(1, 1, 1), lane(0, 1, 1), lane(1, 2, 10)), api.ErrRange},
	// from corners one does not come to others
	{"a lane twice", market(list(1, 1, 1), lane(0, 1, 1), lane(0, 1, 1)), api.ErrShape},
	{"a lane twice, of other lengths", market(list(1, 1, 1), lane(1, 2, 1), lane(1, 2, 2)), api.ErrShape},
	{"a ring and a corner", market(list(1, 1, 1, 1), lane(0, 1, 1), lane(1, 2, 1), lane(0, 2, 1)), api.ErrShape},
	{"a corner and a ring", market(list(1, 1, 1, 1), lane(1, 2, 1), lane(2, 3, 1), lane(1, 3, 1)), api.ErrShape},
	{"two rows, one of them a lane twice", market(list(1, 1, 1, 1), lane(0, 1, 1), lane(2, 3, 1), lane(2, 3, 1)), api.ErrShape},
	{"the last lane is wrong, and a lane is there twice", market(list(1, 1, 1, 1), lane(0, 1, 1), lane(0, 1, 1), lane(1, 2, 10)), api.ErrRange},
}

func TestCheck(t *testing.T) {
	for _, c := range checks {
		if e := tip.Check(c.m); e != c.want {
			t.Errorf("%s: %d, want %d", c.name, e, c.want)
		}
	}
}

// result is what a function returns: a list, up to two numbers, and an error.
type result struct {
	l    []int
	a, b int
	e    api.Errno
}

func (r result) same(other result) bool {
	return slices.Equal(r.l, other.l) && r.a == other.a && r.b == other.b && r.e == other.e
}

// isZero tells whether there is nothing but an error.
func (r result) isZero() bool { return len(r.l) == 0 && r.a == 0 && r.b == 0 }

func several(l []int, e api.Errno) result { return result{l, 0, 0, e} }
func both(a, b int, e api.Errno) result   { return result{nil, a, b, e} }
func number(n int, e api.Errno) result    { return both(n, 0, e) }
func nothing(e api.Errno) result          { return number(0, e) }

// ofPairs returns what the functions with two corners say.
func ofPairs(m tip.Market, a, b int) map[string]result {
	return map[string]result{
		"Way":    several(tip.Way(m, a, b)),
		"Far":    number(tip.Far(m, a, b)),
		"Branch": several(tip.Branch(m, a, b)),
		"Proves": nothing(tip.Proves(m, a, b)),
		"Votes":  both(tip.Votes(m, a, b)),
	}
}

// ofCorner returns what the functions with one corner say.
func ofCorner(m tip.Market, corner int) map[string]result {
	return map[string]result{
		"Cost":   number(tip.Cost(m, corner)),
		"Why":    number(tip.Why(m, corner)),
		"Radius": number(tip.Radius(m, corner)),
	}
}

// all returns what each function says.
func all(m tip.Market, a, b int, tips []int, many int) map[string]result {
	results := map[string]result{
		"Check":   nothing(tip.Check(m)),
		"Medians": several(tip.Medians(m)),
		"Centres": several(tip.Centres(m)),
		"Longest": several(tip.Longest(m)),
		"Tips":    number(tip.Tips(m, tips)),
		"Best":    several(tip.Best(m, many)),
	}
	maps.Copy(results, ofCorner(m, a))
	maps.Copy(results, ofPairs(m, a, b))
	return results
}

// corners are corners of some markets, and numbers that are corners of none.
var corners = list(0, 1, 2, 7, 8, -1, math.MaxInt, math.MinInt)

// All functions return Check's error before any of their own.
func TestCheckComesFirst(t *testing.T) {
	someTips := lists(nil, list(0), list(0, 0), list(9), list(1, 0))
	for _, c := range checks {
		if c.want == api.OK {
			continue
		}
		for _, a := range corners {
			for k, b := range corners {
				for name, r := range all(c.m, a, b, someTips[k%len(someTips)], b) {
					if !r.isZero() || r.e != c.want {
						t.Errorf("%s of %s, %d, %d: %v, want %d", name, c.name, a, b, r, c.want)
					}
				}
			}
		}
	}
}

// A number that is not a corner comes before any error of the function.
func TestCornersComeSecond(t *testing.T) {
	for _, m := range valid() {
		many := len(m.Loads)
		for _, none := range list(many, -1, 8, math.MaxInt, math.MinInt) {
			for name, r := range ofCorner(m, none) {
				if !r.isZero() || r.e != api.ErrNone {
					t.Errorf("%s of %v, %d: %v", name, m, none, r)
				}
			}
			for _, other := range list(0, many-1, none, -2, 9) {
				for _, pair := range [][2]int{{none, other}, {other, none}} {
					for name, r := range ofPairs(m, pair[0], pair[1]) {
						if !r.isZero() || r.e != api.ErrNone {
							t.Errorf("%s of %v, %v: %v", name, m, pair, r)
						}
					}
				}
			}
		}
	}
}

// P9.2

func TestWay(t *testing.T) {
	for _, c := range []struct {
		m        tip.Market
		from, to int
		want     []int
		far      int
	}{
		{marketT(), 0, 3, list(0, 1, 2, 3), 3},
		{marketT(), 3, 1, list(3, 2, 1), 2},
		{marketT(), 1, 2, list(1, 2), 1},
		{marketT(), 2, 2, list(2), 0},
		{marketS(), 2, 3, list(2, 0, 3), 5},
		{marketS(), 3, 0, list(3, 0), 3},
		{marketU(), 1, 0, list(1, 0), 5},
		{one(), 0, 0, list(0), 0},
		{idle(), 0, 2, list(0, 1, 2), 4},
		{greatest(), 7, 0, list(7, 6, 5, 4, 3, 2, 1, 0), 63},
		{branched(), 6, 3, list(6, 2, 4, 0, 3), 15},
		{branched(), 5, 1, list(5, 2, 4, 1), 6},
		{branched(), 3, 0, list(3, 0), 1},
		{branched(), 5, 6, list(5, 2, 6), 6},
	} {
		if l, e := tip.Way(c.m, c.from, c.to); !slices.Equal(l, c.want) || e != api.OK {
			t.Errorf("Way of %v, %d to %d: %v %d, want %v", c.m, c.from, c.to, l, e, c.want)
		}
		if n, e := tip.Far(c.m, c.from, c.to); n != c.far || e != api.OK {
			t.Errorf("Far of %v, %d to %d: %d %d, want %d", c.m, c.from, c.to, n, e, c.far)
		}
	}
}

// P9.2, P9.3 and P9.5

func TestMarkets(t *testing.T) {
	for _, c := range []struct {
		m                         tip.Market
		costs, radii              []int
		medians, centres, longest []int
	}{
		{marketT(), list(9, 7, 5, 3), list(3, 2, 2, 3), list(3), list(1, 2), list(0, 1, 2, 3)},
		{marketS(), list(6, 7, 8, 9), list(3, 4, 5, 5), list(0), list(0), list(2, 0, 3)},
		{marketU(), list(5, 5), list(5, 5), list(0, 1), list(0, 1), list(0, 1)},
		{one(), list(0), list(0), list(0), list(0), list(0)},
		{idle(), list(0, 0, 0), list(4, 2, 4), list(0, 1, 2), list(1), list(0, 1, 2)},
		{row(1, 1, 0, 0, 1), list(3, 3, 3, 3), list(3, 2, 2, 3), list(0, 1, 2, 3), list(1, 2), list(0, 1, 2, 3)},
		{row(9, 9, 0, 9), list(162, 162, 162), list(18, 9, 18), list(0, 1, 2), list(1), list(0, 1, 2)},
		{greatest(), list(2268, 1782, 1458, 1296, 1296, 1458, 1782, 2268), list(63, 54, 45, 36, 36, 45, 54, 63), list(3, 4), list(3, 4), list(0, 1, 2, 3, 4, 5, 6, 7)},
		// of several longest ways the first one is the one that begins with the smallest corner
		{star(2, 0, 0, 0, 0), list(0, 0, 0, 0), list(2, 4, 4, 4), list(0, 1, 2, 3), list(0), list(1, 0, 2)},
		// of two longest ways that begin with one corner, the smaller second one comes first, not the smaller end
		{market(list(1, 1, 1, 1, 1), lane(0, 3, 1), lane(0, 2, 1), lane(1, 3, 1), lane(2, 4, 1)), list(6, 10, 7, 7, 10), list(2, 4, 3, 3, 4), list(0), list(0), list(1, 3, 0, 2, 4)},
		{market(list(0, 0, 0, 0, 0, 0), lane(0, 5, 1), lane(2, 5, 1), lane(3, 5, 1), lane(1, 3, 1), lane(2, 4, 1)), equal(6, 0), list(3, 4, 3, 3, 4, 2), list(0, 1, 2, 3, 4, 5), list(5), list(1, 3, 5, 2, 4)},
		{market(list(1, 0, 1, 1, 0), lane(0, 4, 2), lane(2, 4, 2), lane(1, 3, 1), lane(0, 3, 1)), list(5, 9, 9, 6, 7), list(4, 6, 6, 5, 4), list(0), list(0, 4), list(1, 3, 0, 4, 2)},
		{branched(), list(82, 118, 90, 86, 82, 110, 138), list(14, 13, 11, 15, 10, 13, 15), list(0, 4), list(4), list(3, 0, 4, 2, 6)},
	} {
		for corner := range c.m.Loads {
			if n, e := tip.Cost(c.m, corner); n != c.costs[corner] || e != api.OK {
				t.Errorf("Cost of %v, %d: %d %d, want %d", c.m, corner, n, e, c.costs[corner])
			}
			if n, e := tip.Radius(c.m, corner); n != c.radii[corner] || e != api.OK {
				t.Errorf("Radius of %v, %d: %d %d, want %d", c.m, corner, n, e, c.radii[corner])
			}
		}
		for name, x := range map[string]struct{ got, want []int }{
			"Medians": {must(tip.Medians(c.m)), c.medians},
			"Centres": {must(tip.Centres(c.m)), c.centres},
			"Longest": {must(tip.Longest(c.m)), c.longest},
		} {
			if !slices.Equal(x.got, x.want) {
				t.Errorf("%s of %v: %v, want %v", name, c.m, x.got, x.want)
			}
		}
	}
	if n, e := tip.Cost(marketT(), 4); n != 0 || e != api.ErrNone {
		t.Errorf("Cost of T, 4: %d %d", n, e)
	}
}

// P9.4

func TestBranch(t *testing.T) {
	for _, c := range []struct {
		m            tip.Market
		corner, over int
		want         []int
		e, proves    api.Errno
	}{
		{marketT(), 1, 2, list(2, 3), api.OK, api.OK},
		{marketT(), 1, 0, list(0), api.OK, api.ErrProof},
		{marketT(), 0, 1, list(1, 2, 3), api.OK, api.OK},
		{marketT(), 3, 2, list(0, 1, 2), api.OK, api.ErrProof},
		{marketT(), 1, 3, nil, api.ErrShape, api.ErrShape},
		{marketT(), 1, 1, nil, api.ErrShape, api.ErrShape},
		{marketT(), 3, 0, nil, api.ErrShape, api.ErrShape},
		{marketS(), 0, 2, list(2), api.OK, api.ErrProof},
		{marketS(), 2, 0, list(0, 1, 3), api.OK, api.OK},
		{marketS(), 2, 3, nil, api.ErrShape, api.ErrShape},
		// just half of all loads are not more than half
		{marketU(), 0, 1, list(1), api.OK, api.ErrProof},
		{marketU(), 1, 0, list(0), api.OK, api.ErrProof},
		{idle(), 0, 1, list(1, 2), api.OK, api.ErrProof},
		{one(), 0, 0, nil, api.ErrShape, api.ErrShape},
		{row(1, 4, 5), 0, 1, list(1), api.OK, api.OK},
		{greatest(), 2, 3, list(3, 4, 5, 6, 7), api.OK, api.OK},
		{greatest(), 3, 4, list(4, 5, 6, 7), api.OK, api.ErrProof},
		{branched(), 4, 2, list(2, 5, 6), api.OK, api.ErrProof},
		{branched(), 2, 4, list(0, 1, 3, 4), api.OK, api.OK},
		{branched(), 4, 0, list(0, 3), api.OK, api.ErrProof},
		{branched(), 0, 4, list(1, 2, 4, 5, 6), api.OK, api.ErrProof},
		{branched(), 0, 2, nil, api.ErrShape, api.ErrShape},
	} {
		if l, e := tip.Branch(c.m, c.corner, c.over); !slices.Equal(l, c.want) || e != c.e {
			t.Errorf("Branch of %v, %d over %d: %v %d, want %v %d", c.m, c.corner, c.over, l, e, c.want, c.e)
		}
		if e := tip.Proves(c.m, c.corner, c.over); e != c.proves {
			t.Errorf("Proves of %v, %d over %d: %d, want %d", c.m, c.corner, c.over, e, c.proves)
		}
	}
}

func TestWhy(t *testing.T) {
	for _, c := range []struct {
		m      tip.Market
		corner int
		want   int
		e      api.Errno
	}{
		{marketT(), 0, 1, api.OK},
		{marketT(), 1, 2, api.OK},
		{marketT(), 2, 3, api.OK},
		{marketT(), 3, 0, api.ErrClash},
		{marketS(), 0, 0, api.ErrClash},
		{marketS(), 3, 0, api.OK},
		{marketU(), 0, 0, api.ErrClash},
		{marketU(), 1, 0, api.ErrClash},
		{one(), 0, 0, api.ErrClash},
		{idle(), 1, 0, api.ErrClash},
		{row(1, 4, 5), 0, 1, api.OK},
		{row(1, 5, 4), 1, 0, api.OK},
		{branched(), 4, 0, api.ErrClash},
		{branched(), 6, 2, api.OK},
		{branched(), 2, 4, api.OK},
		{branched(), 3, 0, api.OK},
	} {
		if n, e := tip.Why(c.m, c.corner); n != c.want || e != c.e {
			t.Errorf("Why of %v, %d: %d %d, want %d %d", c.m, c.corner, n, e, c.want, c.e)
		}
	}
}

// P9.6

func TestVotes(t *testing.T) {
	for _, c := range []struct {
		m          tip.Market
		a, b       int
		forA, forB int
		e          api.Errno
	}{
		{marketT(), 0, 3, 1, 3, api.OK},
		{marketT(), 3, 0, 3, 1, api.OK},
		{marketT(), 1, 3, 1, 3, api.OK},
		{marketT(), 1, 1, 0, 0, api.ErrTwice},
		{marketT(), 4, 4, 0, 0, api.ErrNone},
		{marketS(), 1, 2, 2, 1, api.OK},
		{marketU(), 0, 1, 1, 1, api.OK},
		{one(), 0, 0, 0, 0, api.ErrTwice},
		{idle(), 0, 2, 0, 0, api.OK},
		// loads that are as far from both vote for none
		{row(1, 4, 9, 7), 0, 2, 4, 7, api.OK},
		{row(1, 4, 9, 7), 2, 0, 7, 4, api.OK},
		{star(3, 9, 1, 2, 3), 1, 3, 1, 3, api.OK},
		{greatest(), 0, 7, 36, 36, api.OK},
		{greatest(), 3, 7, 45, 18, api.OK},
		{greatest(), 6, 7, 63, 9, api.OK},
		{branched(), 4, 2, 11, 3, api.OK},
		{branched(), 3, 1, 7, 7, api.OK},
	} {
		if a, b, e := tip.Votes(c.m, c.a, c.b); a != c.forA || b != c.forB || e != c.e {
			t.Errorf("Votes of %v, %d and %d: %d %d %d, want %d %d %d", c.m, c.a, c.b, a, b, e, c.forA, c.forB, c.e)
		}
	}
}

// P9.7

func TestTips(t *testing.T) {
	for _, c := range []struct {
		m    tip.Market
		tips []int
		want int
		e    api.Errno
	}{
		{marketT(), list(0, 3), 0, api.OK},
		{marketT(), list(1), 7, api.OK},
		{marketT(), list(1, 2), 4, api.OK},
		{marketT(), list(0, 1, 2, 3), 0, api.OK},
		{marketT(), nil, 0, api.ErrEmpty},
		{marketT(), list(), 0, api.ErrEmpty},
		{marketT(), list(1, 1), 0, api.ErrOrder},
		{marketT(), list(2, 1), 0, api.ErrOrder},
		{marketT(), list(4), 0, api.ErrNone},
		{marketT(), list(-1), 0, api.ErrNone},
		{marketT(), list(0, math.MaxInt), 0, api.ErrNone},
		{marketT(), list(math.MinInt, 0), 0, api.ErrNone},
		{marketT(), list(3, 4), 0, api.ErrNone},
		{marketT(), list(0, 1, 2, 3, 4), 0, api.ErrNone},
		{marketT(), equal(1000, 0), 0, api.ErrOrder},
		// the first of them with an error decides
		{marketT(), list(1, 0, 4), 0, api.ErrOrder},
		{marketT(), list(1, 4, 0), 0, api.ErrNone},
		{marketT(), list(1, -1), 0, api.ErrNone},
		{one(), list(0), 0, api.OK},
		{one(), list(1), 0, api.ErrNone},
		{idle(), list(2), 0, api.OK},
		{marketS(), list(1, 2), 4, api.OK},
		{greatest(), list(7), 2268, api.OK},
		{branched(), list(4, 5), 76, api.OK},
		{branched(), list(2, 3), 17, api.OK},
	} {
		if n, e := tip.Tips(c.m, c.tips); n != c.want || e != c.e {
			t.Errorf("Tips of %v, %v: %d %d, want %d %d", c.m, c.tips, n, e, c.want, c.e)
		}
	}
}

func TestBest(t *testing.T) {
	for _, c := range []struct {
		m    tip.Market
		many int
		want []int
		e    api.Errno
	}{
		{marketT(), 1, list(3), api.OK},
		{marketT(), 2, list(0, 3), api.OK},
		{marketT(), 3, list(0, 1, 3), api.OK},
		{marketT(), 4, list(0, 1, 2, 3), api.OK},
		{marketT(), 5, nil, api.ErrNone},
		{marketT(), 0, nil, api.ErrNone},
		{marketT(), -1, nil, api.ErrNone},
		{marketT(), math.MaxInt, nil, api.ErrNone},
		{marketT(), math.MinInt, nil, api.ErrNone},
		{marketS(), 2, list(0, 3), api.OK},
		{marketS(), 3, list(1, 2, 3), api.OK},
		{marketU(), 1, list(0), api.OK},
		{one(), 1, list(0), api.OK},
		{one(), 2, nil, api.ErrNone},
		{idle(), 2, list(0, 1), api.OK},
		{greatest(), 1, list(3), api.OK},
		{greatest(), 8, list(0, 1, 2, 3, 4, 5, 6, 7), api.OK},
		{greatest(), 9, nil, api.ErrNone},
		{greatest(), 2, list(1, 5), api.OK},
		// tips need not be medians
		{row(1, 3, 0, 1, 0, 3), 2, list(0, 4), api.OK},
		{branched(), 2, list(3, 4), api.OK},
	} {
		if l, e := tip.Best(c.m, c.many); !slices.Equal(l, c.want) || e != c.e {
			t.Errorf("Best of %v, %d: %v %d, want %v %d", c.m, c.many, l, e, c.want, c.e)
		}
	}
}

// P1: each function ends, does not panic, and returns the same for the same arguments.
func TestAllArguments(t *testing.T) {
	markets := valid()
	for _, c := range checks {
		markets = append(markets, c.m)
	}
	someTips := lists(nil, list(0), list(0, 1), list(1, 0), list(7), list(-1), list(0, math.MaxInt), list(math.MinInt), equal(1000, 0), make([]int, 1000), list(0, 1, 2, 3, 4, 5, 6, 7))
	for _, m := range markets {
		for _, a := range corners {
			for k, b := range corners {
				// each number of tips comes with some of the corners
				many := corners[(a&7+k)%len(corners)]
				tips := someTips[(a&7+k)%len(someTips)]
				x, y := all(m, a, b, tips, many), all(m, a, b, tips, many)
				for name := range x {
					if !x[name].same(y[name]) || x[name].e != api.OK && !x[name].isZero() {
						t.Errorf("%s of %v, %d, %d, %v, %d: %v, then %v", name, m, a, b, tips, many, x[name], y[name])
					}
				}
			}
		}
	}
}

// R4: what a caller does with a result changes nothing else, and arguments stay as they are.
func TestMemory(t *testing.T) {
	memory := append(branched().Loads, 9, 9)
	lanes := append(branched().Lanes, lane(9, 9, 9))
	m := market(memory[:7], lanes[:6]...)
	tips := list(0, 4, 9)
	for round := range 2 {
		for name, r := range all(m, 2, 4, tips[:2], 3) {
			want := all(branched(), 2, 4, list(0, 4), 3)[name]
			if !r.same(want) || r.e != api.OK {
				t.Errorf("%s, call %d: %v, want %v", name, round+1, r, want)
			}
			for i := range r.l[:cap(r.l)] {
				r.l[:cap(r.l)][i] = -1
			}
		}
	}
	if !slices.Equal(memory, append(branched().Loads, 9, 9)) || !slices.Equal(lanes, append(branched().Lanes, lane(9, 9, 9))) || !slices.Equal(tips, list(0, 4, 9)) {
		t.Errorf("an argument was changed: %v %v %v", memory, lanes, tips)
	}
}
