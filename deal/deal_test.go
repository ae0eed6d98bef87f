package deal_test

import (
	"math"
	"slices"
	"testing"

	"breeze/api"
	"breeze/deal"
)

func list(l ...int) []int { return l }

func lists(l ...[]int) [][]int { return l }

func sameLists(a, b [][]int) bool { return slices.EqualFunc(a, b, slices.Equal[[]int]) }

// must is a result that may not be refused.
func must[T any](result T, e api.Errno) T {
	if e != api.OK {
		panic(e)
	}
	return result
}

// equal are so many equal numbers.
func equal(many, n int) []int { return slices.Repeat(list(n), many) }

func loads(has, wants []int) deal.Loads { return deal.Loads{Has: has, Wants: wants} }

func prices(heaps, buyers []int) deal.Prices { return deal.Prices{Heaps: heaps, Buyers: buyers} }

// The costs A, B and C, and the loads L of the chapter's examples.

func costsA() [][]int { return lists(list(1, 2), list(2, 1)) }

func costsB() [][]int { return lists(list(2, 1), list(1, 2)) }

func costsC() [][]int { return lists(list(0, 1, 1), list(1, 0, 1), list(1, 1, 0)) }

func loadsL() deal.Loads { return loads(list(2, 1), list(1, 2)) }

// greatest are as many and as great costs as there can be.
func greatest() [][]int { return lists(equal(4, 20), equal(4, 20), equal(4, 20)) }

// P8.1

var checks = []struct {
	name  string
	costs [][]int
	want  api.Errno
}{
	{"A", costsA(), api.OK},
	{"B", costsB(), api.OK},
	{"C", costsC(), api.OK},
	{"one heap and one buyer", lists(list(0)), api.OK},
	{"the smallest and the greatest cost", lists(list(0, 20)), api.OK},
	{"three heaps and four buyers", greatest(), api.OK},
	{"no list", nil, api.ErrEmpty},
	{"an empty list of lists", lists(), api.ErrEmpty},
	{"no buyers", lists(nil), api.ErrEmpty},
	{"three heaps, no buyers", lists(list(), list(), list()), api.ErrEmpty},
	{"an empty list before one with a buyer", lists(list(), list(1)), api.ErrEmpty},
	{"an empty list before one with a wrong cost", lists(list(), list(21)), api.ErrEmpty},
	{"four heaps, no buyers", lists(nil, nil, nil, nil), api.ErrEmpty},
	{"four heaps", lists(list(1), list(1), list(1), list(1)), api.ErrMany},
	{"a thousand heaps", make([][]int, 1000), api.ErrEmpty},
	{"a thousand heaps, of which the first has a buyer", append(lists(list(1)), make([][]int, 999)...), api.ErrMany},
	{"five buyers", lists(equal(5, 1)), api.ErrMany},
	{"a thousand buyers", lists(equal(1000, 1)), api.ErrMany},
	{"five buyers, and wrong costs", lists(equal(5, 21)), api.ErrMany},
	{"five buyers, and no others", lists(equal(5, 1), nil), api.ErrMany},
	{"four heaps, and a wrong cost", lists(list(-1), list(1), list(1), list(1)), api.ErrMany},
	{"four heaps of other lengths", lists(list(1), list(1, 1), list(), list(1)), api.ErrMany},
	{"a shorter list", lists(list(1, 2), list(3)), api.ErrShape},
	{"a longer list", lists(list(1, 2), list(3, 4, 5)), api.ErrShape},
	{"an empty list", lists(list(1, 2), list()), api.ErrShape},
	{"a list of five", lists(list(1, 2, 3, 4), equal(5, 1)), api.ErrShape},
	{"the last list is shorter", lists(list(1, 2), list(3, 4), list(5)), api.ErrShape},
	{"21", lists(list(21)), api.ErrRange},
	{"-1", lists(list(-1)), api.ErrRange},
	{"the last of all", lists(equal(4, 0), equal(4, 0), list(0, 0, 0, 21)), api.ErrRange},
	{"the first of all", lists(list(-1, 0, 0, 0), equal(4, 0), equal(4, 0)), api.ErrRange},
	{"the greatest number", lists(list(1, 2), list(math.MaxInt, 1)), api.ErrRange},
	{"the least number", lists(list(1, 2), list(1, math.MinInt)), api.ErrRange},
	// the first list with an error decides, and of its errors the shape
	{"a wrong cost, then a shorter list", lists(list(21, 1), list(1)), api.ErrRange},
	{"a shorter list, then a wrong cost", lists(list(1, 1), list(1), list(1, 21)), api.ErrShape},
	{"a wrong cost in the middle, then a shorter list", lists(list(1, 1), list(-1, 1), list(1)), api.ErrRange},
	{"a shorter list with a wrong cost", lists(list(1, 1), list(21)), api.ErrShape},
	{"a longer list with a wrong cost", lists(list(1), list(-1, 1)), api.ErrShape},
}

func TestCheck(t *testing.T) {
	for _, c := range checks {
		if e := deal.Check(c.costs); e != c.want {
			t.Errorf("%s: %d, want %d", c.name, e, c.want)
		}
	}
}

// loadings are loads, of A if nothing else is said, and their errors.
var loadings = []struct {
	name  string
	costs [][]int
	l     deal.Loads
	want  api.Errno
}{
	{"L", costsA(), loadsL(), api.OK},
	{"nothing", costsA(), loads(list(0, 0), list(0, 0)), api.OK},
	{"as much as there can be", costsA(), loads(list(5, 5), list(5, 5)), api.OK},
	{"one heap", lists(list(1, 1, 1, 1)), loads(list(5), list(2, 0, 0, 3)), api.OK},
	{"one buyer", lists(list(1), list(1), list(1)), loads(list(2, 0, 3), list(5)), api.OK},
	{"three heaps and four buyers", greatest(), loads(list(5, 5, 5), list(5, 5, 5, 0)), api.OK},
	{"no lists", costsA(), loads(nil, nil), api.ErrShape},
	{"one heap of two", costsA(), loads(list(3), list(1, 2)), api.ErrShape},
	{"three heaps of two", costsA(), loads(list(1, 1, 1), list(1, 2)), api.ErrShape},
	{"no heaps", costsA(), loads(nil, list(0, 0)), api.ErrShape},
	{"one buyer of two", costsA(), loads(list(2, 1), list(3)), api.ErrShape},
	{"three buyers of two", costsA(), loads(list(2, 1), list(1, 1, 1)), api.ErrShape},
	{"no buyers", costsA(), loads(list(0, 0), list()), api.ErrShape},
	{"heaps and buyers have changed places", lists(list(1, 1, 1), list(1, 1, 1)), loads(list(1, 1, 1), list(1, 2)), api.ErrShape},
	{"a thousand buyers", costsA(), loads(list(0, 0), make([]int, 1000)), api.ErrShape},
	{"a wrong number, and one buyer of two", costsA(), loads(list(6, 0), list(6)), api.ErrShape},
	{"a wrong number of one heap", costsA(), loads(list(-1), list(1, 2)), api.ErrShape},
	{"a heap with 6", costsA(), loads(list(6, 0), list(3, 3)), api.ErrRange},
	{"a heap with -1", costsA(), loads(list(4, -1), list(1, 2)), api.ErrRange},
	{"a buyer who wants 6", costsA(), loads(list(3, 3), list(0, 6)), api.ErrRange},
	{"a buyer who wants -1", costsA(), loads(list(0, 0), list(-1, 1)), api.ErrRange},
	{"the greatest number", costsA(), loads(list(math.MaxInt, 0), list(math.MaxInt, 0)), api.ErrRange},
	{"the least number", costsA(), loads(list(0, math.MinInt), list(0, math.MinInt)), api.ErrRange},
	{"numbers that leave the range of an int", costsA(), loads(list(math.MaxInt, math.MaxInt), list(-1, -1)), api.ErrRange},
	{"a wrong number, and another sum", costsA(), loads(list(2, 1), list(1, 6)), api.ErrRange},
	{"buyers want less", costsA(), loads(list(2, 1), list(1, 1)), api.ErrSum},
	{"buyers want more", costsA(), loads(list(2, 1), list(5, 5)), api.ErrSum},
	{"buyers want nothing", costsA(), loads(list(0, 1), list(0, 0)), api.ErrSum},
	{"heaps have nothing", costsA(), loads(list(0, 0), list(0, 1)), api.ErrSum},
}

func TestLoaded(t *testing.T) {
	for _, c := range loadings {
		if e := deal.Loaded(c.costs, c.l); e != c.want {
			t.Errorf("%s: %d, want %d", c.name, e, c.want)
		}
	}
}

type result struct {
	lists [][]int
	n     int
	e     api.Errno
}

func (r result) same(other result) bool {
	return sameLists(r.lists, other.lists) && r.n == other.n && r.e == other.e
}

// isZero tells whether there is nothing but an error.
func (r result) isZero() bool { return len(r.lists) == 0 && r.n == 0 }

func several(l [][]int, e api.Errno) result { return result{l, 0, e} }
func number(n int, e api.Errno) result      { return result{nil, n, e} }
func nothing(e api.Errno) result            { return number(0, e) }

func single(l []int, e api.Errno) result { return pair(l, nil, e) }

func pair(a, b []int, e api.Errno) result {
	if len(a)+len(b) == 0 {
		return nothing(e)
	}
	return several(lists(a, b), e)
}

func truth(is bool, e api.Errno) result {
	if is {
		return number(1, e)
	}
	return nothing(e)
}

func priced(p deal.Prices, e api.Errno) result { return pair(p.Heaps, p.Buyers, e) }

// ofCosts returns what the functions without loads say.
func ofCosts(costs [][]int, p deal.Prices) map[string]result {
	return map[string]result{
		"Check":    nothing(deal.Check(costs)),
		"Straight": truth(deal.Straight(costs)),
		"Why":      single(deal.Why(costs)),
		"Orders":   pair(deal.Orders(costs)),
		"Priced":   nothing(deal.Priced(costs, p)),
	}
}

// ofLoads returns what the functions with loads say.
func ofLoads(costs [][]int, l deal.Loads, goes [][]int, p deal.Prices) map[string]result {
	return map[string]result{
		"Loaded":   nothing(deal.Loaded(costs, l)),
		"Corner":   several(deal.Corner(costs, l)),
		"Cost":     number(deal.Cost(costs, l, goes)),
		"Cheapest": several(deal.Cheapest(costs, l)),
		"Count":    number(deal.Count(costs, l)),
		"Prove":    priced(deal.Prove(costs, l)),
		"Proves":   nothing(deal.Proves(costs, l, goes, p)),
	}
}

// All functions return Check's error before any of their own, and those with loads then Loaded's.
func TestCheckComesFirst(t *testing.T) {
	for _, c := range checks {
		if c.want == api.OK {
			continue
		}
		for _, p := range []deal.Prices{{}, prices(list(0), list(0)), prices(list(1001, 0), list(0, 0)), prices(list(20, 20), list(20, 20))} {
			for _, l := range []deal.Loads{{}, loadsL(), loads(list(-1), list(6)), loads(list(1), list(2))} {
				for _, results := range []map[string]result{ofCosts(c.costs, p), ofLoads(c.costs, l, lists(list(-1)), p)} {
					for name, r := range results {
						if !r.isZero() || r.e != c.want {
							t.Errorf("%s of %s: %v, want %d", name, c.name, r, c.want)
						}
					}
				}
			}
		}
	}
	for _, c := range loadings {
		if c.want == api.OK {
			continue
		}
		for _, goes := range [][][]int{nil, costsA(), lists(list(-1, 6), list(0, 0)), lists(list(1, 1), list(0, 1))} {
			// of straight costs and others
			for _, costs := range [][][]int{c.costs, append(lists(list(20, 0, 0, 0)[:len(c.costs[0])]), c.costs[1:]...)} {
				for name, r := range ofLoads(costs, c.l, goes, prices(list(1001), nil)) {
					if !r.isZero() || r.e != c.want {
						t.Errorf("%s of %s: %v, want %d", name, c.name, r, c.want)
					}
				}
			}
		}
	}
}

// P8.2 and P8.3

func TestDeals(t *testing.T) {
	for _, c := range []struct {
		costs            [][]int
		l                deal.Loads
		corner, cheapest [][]int
		count            int
	}{
		{costsA(), loadsL(), lists(list(1, 1), list(0, 1)), lists(list(1, 1), list(0, 1)), 2},
		{costsB(), loadsL(), lists(list(1, 1), list(0, 1)), lists(list(0, 2), list(1, 0)), 2},
		{lists(list(7)), loads(list(5), list(5)), lists(list(5)), lists(list(5)), 1},
		{lists(list(7)), loads(list(0), list(0)), lists(list(0)), lists(list(0)), 1},
		{lists(list(7, 0, 1)), loads(list(5), list(1, 0, 4)), lists(list(1, 0, 4)), lists(list(1, 0, 4)), 1},
		{lists(list(7), list(0), list(1)), loads(list(0, 4, 1), list(5)), lists(list(0), list(4), list(1)), lists(list(0), list(4), list(1)), 1},
		// nothing goes anywhere
		{costsB(), loads(list(0, 0), list(0, 0)), lists(list(0, 0), list(0, 0)), lists(list(0, 0), list(0, 0)), 1},
		// heaps without loads, and buyers who want nothing
		{costsA(), loads(list(0, 3), list(1, 2)), lists(list(0, 0), list(1, 2)), lists(list(0, 0), list(1, 2)), 1},
		{costsA(), loads(list(3, 0), list(1, 2)), lists(list(1, 2), list(0, 0)), lists(list(1, 2), list(0, 0)), 1},
		{costsB(), loads(list(2, 1), list(0, 3)), lists(list(0, 2), list(0, 1)), lists(list(0, 2), list(0, 1)), 1},
		{costsB(), loads(list(2, 1), list(3, 0)), lists(list(2, 0), list(1, 0)), lists(list(2, 0), list(1, 0)), 1},
		// a heap and a buyer are done at once
		{costsA(), loads(list(1, 1), list(1, 1)), lists(list(1, 0), list(0, 1)), lists(list(1, 0), list(0, 1)), 2},
		{costsB(), loads(list(1, 1), list(1, 1)), lists(list(1, 0), list(0, 1)), lists(list(0, 1), list(1, 0)), 2},
		{costsC(), loads(list(1, 1, 1), list(1, 1, 1)), lists(list(1, 0, 0), list(0, 1, 0), list(0, 0, 1)), lists(list(1, 0, 0), list(0, 1, 0), list(0, 0, 1)), 6},
		{costsC(), loads(list(1, 0, 2), list(1, 1, 1)), lists(list(1, 0, 0), list(0, 0, 0), list(0, 1, 1)), lists(list(1, 0, 0), list(0, 0, 0), list(0, 1, 1)), 3},
		// of several deals that cost least, the first one
		{lists(list(3, 3), list(3, 3)), loads(list(5, 5), list(5, 5)), lists(list(5, 0), list(0, 5)), lists(list(0, 5), list(5, 0)), 6},
		{lists(list(0, 0, 0), list(0, 0, 0)), loads(list(2, 4), list(1, 2, 3)), lists(list(1, 1, 0), list(0, 1, 3)), lists(list(0, 0, 2), list(1, 2, 1)), 5},
		{lists(list(1, 0, 0), list(0, 1, 0)), loads(list(2, 1), list(1, 1, 1)), lists(list(1, 1, 0), list(0, 0, 1)), lists(list(0, 1, 1), list(1, 0, 0)), 3},
		{greatest(), loads(list(5, 5, 5), list(3, 4, 4, 4)), lists(list(3, 2, 0, 0), list(0, 2, 3, 0), list(0, 0, 1, 4)), lists(list(0, 0, 1, 4), list(0, 2, 3, 0), list(3, 2, 0, 0)), 993},
	} {
		if goes, e := deal.Corner(c.costs, c.l); !sameLists(goes, c.corner) || e != api.OK {
			t.Errorf("Corner of %v, %v: %v %d, want %v", c.costs, c.l, goes, e, c.corner)
		}
		if goes, e := deal.Cheapest(c.costs, c.l); !sameLists(goes, c.cheapest) || e != api.OK {
			t.Errorf("Cheapest of %v, %v: %v %d, want %v", c.costs, c.l, goes, e, c.cheapest)
		}
		if n, e := deal.Count(c.costs, c.l); n != c.count || e != api.OK {
			t.Errorf("Count of %v, %v: %d %d, want %d", c.costs, c.l, n, e, c.count)
		}
	}
}

func TestCost(t *testing.T) {
	for _, c := range []struct {
		costs [][]int
		l     deal.Loads
		goes  [][]int
		want  int
		e     api.Errno
	}{
		{costsA(), loadsL(), lists(list(1, 1), list(0, 1)), 4, api.OK},
		{costsA(), loadsL(), lists(list(0, 2), list(1, 0)), 6, api.OK},
		{costsB(), loadsL(), lists(list(0, 2), list(1, 0)), 3, api.OK},
		{costsA(), loads(list(0, 0), list(0, 0)), lists(list(0, 0), list(0, 0)), 0, api.OK},
		{greatest(), loads(list(5, 5, 5), list(5, 5, 5, 0)), lists(list(5, 0, 0, 0), list(0, 5, 0, 0), list(0, 0, 5, 0)), 300, api.OK},
		{costsA(), loadsL(), nil, 0, api.ErrShape},
		{costsA(), loadsL(), lists(list(1, 1)), 0, api.ErrShape},
		{costsA(), loadsL(), lists(list(1, 1), nil), 0, api.ErrShape},
		{costsA(), loadsL(), lists(list(1, 1), list(1)), 0, api.ErrShape},
		{costsA(), loadsL(), lists(list(1), list(0, 1)), 0, api.ErrShape},
		{costsA(), loadsL(), lists(list(1, 1, 0), list(0, 1)), 0, api.ErrShape},
		{costsA(), loadsL(), lists(list(1, 1), list(0, 1, 0)), 0, api.ErrShape},
		{costsA(), loadsL(), lists(list(1, 1), list(0, 1), list(0, 0)), 0, api.ErrShape},
		{costsA(), loadsL(), lists(list(1, 1), list(0, 1), nil), 0, api.ErrShape},
		{costsA(), loadsL(), make([][]int, 1000), 0, api.ErrShape},
		// the shape of all lists is looked at before any number
		{costsA(), loadsL(), lists(list(-1, 6), list(0)), 0, api.ErrShape},
		{costsA(), loadsL(), lists(list(-1), list(6, 0)), 0, api.ErrShape},
		{costsA(), loadsL(), lists(list(6, -4), list(-5, 6)), 0, api.ErrRange},
		{costsA(), loadsL(), lists(list(2, 0), list(-1, 2)), 0, api.ErrRange},
		{costsA(), loadsL(), lists(list(6, 0), list(0, 0)), 0, api.ErrRange},
		{costsA(), loadsL(), lists(list(0, 0), list(0, 6)), 0, api.ErrRange},
		{costsA(), loadsL(), lists(list(1, 1), list(math.MaxInt, 1)), 0, api.ErrRange},
		{costsA(), loadsL(), lists(list(math.MinInt, 1), list(1, 1)), 0, api.ErrRange},
		// from each heap as many as it has, and to each buyer as many as it wants
		{costsA(), loadsL(), lists(list(2, 0), list(0, 1)), 0, api.ErrSum},
		{costsA(), loadsL(), lists(list(0, 1), list(1, 1)), 0, api.ErrSum},
		{costsA(), loadsL(), lists(list(1, 1), list(0, 0)), 0, api.ErrSum},
		{costsA(), loadsL(), lists(list(0, 2), list(0, 1)), 0, api.ErrSum},
		{costsA(), loadsL(), lists(list(1, 2), list(0, 0)), 0, api.ErrSum},
		{costsA(), loadsL(), lists(list(5, 5), list(5, 5)), 0, api.ErrSum},
		{costsA(), loadsL(), lists(list(0, 0), list(0, 0)), 0, api.ErrSum},
		{costsA(), loads(list(0, 0), list(0, 0)), lists(list(0, 0), list(0, 1)), 0, api.ErrSum},
	} {
		if n, e := deal.Cost(c.costs, c.l, c.goes); n != c.want || e != c.e {
			t.Errorf("Cost of %v, %v, %v: %d %d, want %d %d", c.costs, c.l, c.goes, n, e, c.want, c.e)
		}
		if e := deal.Proves(c.costs, c.l, c.goes, deal.Prices{}); c.e != api.OK && e != c.e {
			t.Errorf("Proves of %v, %v, %v: %d, want %d", c.costs, c.l, c.goes, e, c.e)
		}
	}
}

// P8.4

func TestStraight(t *testing.T) {
	for _, c := range []struct {
		costs         [][]int
		why           []int
		heaps, buyers []int
	}{
		{costsA(), nil, list(0, 1), list(0, 1)},
		{costsB(), list(0, 1, 0, 1), list(0, 1), list(1, 0)},
		{costsC(), list(0, 1, 1, 2), nil, nil},
		{lists(list(20)), nil, list(0), list(0)},
		{lists(list(20, 0, 7, 3)), nil, list(0), list(0, 1, 2, 3)},
		{lists(list(20), list(0), list(7)), nil, list(0, 1, 2), list(0)},
		{greatest(), nil, list(0, 1, 2), list(0, 1, 2, 3)},
		// both together cost just as much
		{lists(list(1, 2), list(3, 4)), nil, list(0, 1), list(0, 1)},
		{lists(list(1, 2), list(3, 5)), list(0, 1, 0, 1), list(0, 1), list(1, 0)},
		// the first heaps, and of these the first buyers
		{lists(list(0, 0, 0), list(0, 0, 0), list(0, 0, 1)), list(0, 2, 0, 2), list(0, 1, 2), list(2, 0, 1)},
		{lists(list(0, 0, 0), list(0, 0, 1), list(0, 0, 0)), list(0, 1, 0, 2), list(0, 2, 1), list(2, 0, 1)},
		{lists(list(0, 0), list(1, 0), list(1, 1)), list(1, 2, 0, 1), list(0, 2, 1), list(0, 1)},
		{lists(list(0, 1, 0, 0), list(0, 1, 0, 1)), list(0, 1, 0, 3), list(0, 1), list(3, 0, 1, 2)},
		{lists(list(5, 5, 4), list(0, 0, 0)), list(0, 1, 0, 2), list(0, 1), list(2, 0, 1)},
		{lists(list(0, 0), list(0, 1), list(0, 0)), list(0, 1, 0, 1), list(0, 2, 1), list(1, 0)},
		{lists(list(0, 1), list(0, 0), list(0, 1)), list(1, 2, 0, 1), list(0, 2, 1), list(0, 1)},
		{lists(list(0, 20, 0, 20), list(20, 0, 20, 0), list(20, 20, 0, 0)), list(0, 1, 1, 2), nil, nil},
	} {
		if is, e := deal.Straight(c.costs); is != (len(c.why) == 0) || e != api.OK {
			t.Errorf("Straight of %v: %v %d", c.costs, is, e)
		}
		want := api.OK
		if len(c.why) == 0 {
			want = api.ErrClash
		}
		if l, e := deal.Why(c.costs); !slices.Equal(l, c.why) || e != want {
			t.Errorf("Why of %v: %v %d, want %v %d", c.costs, l, e, c.why, want)
		}
		want = api.OK
		if len(c.heaps) == 0 {
			want = api.ErrLost
		}
		if heaps, buyers, e := deal.Orders(c.costs); !slices.Equal(heaps, c.heaps) || !slices.Equal(buyers, c.buyers) || e != want {
			t.Errorf("Orders of %v: %v %v %d, want %v %v %d", c.costs, heaps, buyers, e, c.heaps, c.buyers, want)
		}
	}
}

// P8.5

func TestPriced(t *testing.T) {
	for _, c := range []struct {
		costs [][]int
		p     deal.Prices
		want  api.Errno
	}{
		{costsA(), prices(list(0, -1), list(1, 2)), api.OK},
		{costsA(), prices(list(0, 0), list(1, 1)), api.OK},
		{costsA(), prices(list(0, 0), list(0, 0)), api.OK},
		{costsA(), prices(list(-1000, -1000), list(-1000, -1000)), api.OK},
		{costsA(), prices(list(-999, -1000), list(1000, 1000)), api.OK},
		{costsA(), prices(list(1000, 1000), list(-999, -1000)), api.OK},
		{lists(list(0)), prices(list(1000), list(-1000)), api.OK},
		{costsA(), prices(nil, nil), api.ErrShape},
		{costsA(), prices(list(0), list(1, 2)), api.ErrShape},
		{costsA(), prices(list(0, 0, 0), list(1, 2)), api.ErrShape},
		{costsA(), prices(list(0, 0), list(1)), api.ErrShape},
		{costsA(), prices(list(0, 0), list(1, 1, 1)), api.ErrShape},
		{costsA(), prices(list(0, 0), make([]int, 1000)), api.ErrShape},
		{lists(list(1, 1, 1), list(1, 1, 1)), prices(list(0, 0, 0), list(0, 0)), api.ErrShape},
		{costsA(), prices(list(1001, 0), list(0)), api.ErrShape},
		{costsA(), prices(list(9), list(9, 9)), api.ErrShape},
		{costsA(), prices(list(1001, 0), list(-1000, -1000)), api.ErrRange},
		{costsA(), prices(list(0, -1001), list(0, 0)), api.ErrRange},
		{costsA(), prices(list(-1000, -1000), list(0, 1001)), api.ErrRange},
		{costsA(), prices(list(0, 0), list(-1001, 0)), api.ErrRange},
		{costsA(), prices(list(0, math.MinInt), list(0, 0)), api.ErrRange},
		{costsA(), prices(list(math.MaxInt, 0), list(math.MaxInt, 0)), api.ErrRange},
		// prices that are too great, and one that is not a price
		{costsA(), prices(list(9, 9), list(9, -1001)), api.ErrRange},
		{costsA(), prices(list(0, 0), list(1, 2)), api.ErrOver},
		{costsA(), prices(list(0, 0), list(2, 0)), api.ErrOver},
		{costsA(), prices(list(1, 0), list(1, 0)), api.ErrOver},
		{costsA(), prices(list(0, 1), list(0, 1)), api.ErrOver},
		{costsA(), prices(list(1000, 1000), list(1000, 1000)), api.ErrOver},
		{lists(list(0)), prices(list(1000), list(-999)), api.ErrOver},
	} {
		if e := deal.Priced(c.costs, c.p); e != c.want {
			t.Errorf("Priced of %v, %v: %d, want %d", c.costs, c.p, e, c.want)
		}
		// Proves returns the same error for a deal
		l := loads(equal(len(c.costs), 0), equal(len(c.costs[0]), 0))
		if e := deal.Proves(c.costs, l, must(deal.Corner(c.costs, l)), c.p); e != c.want {
			t.Errorf("Proves of %v, %v: %d, want %d", c.costs, c.p, e, c.want)
		}
	}
}

func TestProve(t *testing.T) {
	for _, c := range []struct {
		costs [][]int
		l     deal.Loads
		want  deal.Prices
		e     api.Errno
	}{
		{costsA(), loadsL(), prices(list(0, -1), list(1, 2)), api.OK},
		{costsB(), loadsL(), deal.Prices{}, api.ErrClash},
		{costsC(), loads(list(0, 0, 0), list(0, 0, 0)), deal.Prices{}, api.ErrClash},
		// where a heap and a buyer are done at once, the next heap comes before the next buyer
		{costsA(), loads(list(1, 1), list(1, 1)), prices(list(0, 1), list(1, 0)), api.OK},
		{costsA(), loads(list(0, 0), list(0, 0)), prices(list(0, 1), list(1, 0)), api.OK},
		{costsA(), loads(list(0, 3), list(1, 2)), prices(list(0, 1), list(1, 0)), api.OK},
		{costsA(), loads(list(3, 0), list(1, 2)), prices(list(0, -1), list(1, 2)), api.OK},
		{costsA(), loads(list(2, 1), list(0, 3)), prices(list(0, -1), list(1, 2)), api.OK},
		{costsA(), loads(list(2, 1), list(3, 0)), prices(list(0, 1), list(1, 0)), api.OK},
		{lists(list(4, 7, 20)), loads(list(1), list(1, 0, 0)), prices(list(0), list(4, 7, 20)), api.OK},
		{lists(list(4), list(0), list(20)), loads(list(1, 0, 0), list(1)), prices(list(0, -4, 16), list(4)), api.OK},
		{lists(list(0, 20), list(20, 20), list(20, 0)), loads(list(1, 1, 1), list(2, 1)), prices(list(0, 20, 20), list(0, -20)), api.OK},
		{lists(list(0, 1, 4, 9), list(1, 0, 1, 4), list(4, 1, 0, 1)), loads(list(2, 3, 4), list(1, 2, 3, 3)), prices(list(0, -1, -2), list(0, 1, 2, 3)), api.OK},
	} {
		if p, e := deal.Prove(c.costs, c.l); !priced(p, e).same(priced(c.want, c.e)) {
			t.Errorf("Prove of %v, %v: %v %d, want %v %d", c.costs, c.l, p, e, c.want, c.e)
		}
	}
}

// P8.6

func TestProves(t *testing.T) {
	corner := lists(list(1, 1), list(0, 1))
	other := lists(list(0, 2), list(1, 0))
	for _, c := range []struct {
		costs [][]int
		l     deal.Loads
		goes  [][]int
		p     deal.Prices
		want  api.Errno
	}{
		{costsA(), loadsL(), corner, prices(list(0, -1), list(1, 2)), api.OK},
		{costsA(), loadsL(), corner, prices(list(1000, 999), list(-999, -998)), api.OK},
		{costsA(), loadsL(), corner, prices(list(0, 0), list(1, 1)), api.ErrProof},
		{costsA(), loadsL(), corner, prices(list(0, 0), list(1, 2)), api.ErrOver},
		{costsA(), loadsL(), corner, prices(list(0), list(1, 2)), api.ErrShape},
		{costsA(), loadsL(), corner, prices(list(0, -1), list(1, 1001)), api.ErrRange},
		// what would be worth as much, but is over a cost
		{costsA(), loadsL(), corner, prices(list(0, 1), list(1, 1)), api.ErrOver},
		{costsA(), loadsL(), other, prices(list(0, -1), list(1, 2)), api.ErrProof},
		{costsA(), loadsL(), other, prices(list(0, 0), list(2, 2)), api.ErrOver},
		{costsB(), loadsL(), other, prices(list(0, 0), list(1, 1)), api.OK},
		{costsB(), loadsL(), corner, prices(list(0, 0), list(1, 1)), api.ErrProof},
		{costsA(), loads(list(0, 0), list(0, 0)), lists(list(0, 0), list(0, 0)), prices(list(-7, -8), list(3, 5)), api.OK},
		// the deal is looked at before the prices
		{costsA(), loadsL(), lists(list(1, 1)), prices(list(0), list(1, 2)), api.ErrShape},
		{costsA(), loadsL(), lists(list(1, 1), list(0, 6)), prices(list(0), list(1, 2)), api.ErrRange},
		{costsA(), loadsL(), lists(list(2, 0), list(0, 1)), prices(list(0), list(1, 2)), api.ErrSum},
		{costsA(), loadsL(), lists(list(2, 0), list(0, 1)), prices(list(0, 1001), list(1, 2)), api.ErrSum},
		{costsA(), loadsL(), lists(list(2, 0), list(0, 1)), prices(list(0, 0), list(1, 2)), api.ErrSum},
		{costsA(), loadsL(), lists(list(2, 0), list(0, 1)), prices(list(0, -1), list(1, 2)), api.ErrSum},
	} {
		if e := deal.Proves(c.costs, c.l, c.goes, c.p); e != c.want {
			t.Errorf("Proves of %v, %v, %v, %v: %d, want %d", c.costs, c.l, c.goes, c.p, e, c.want)
		}
	}
}

// P1: each function ends, does not panic, and returns the same for the same arguments.
func TestAllArguments(t *testing.T) {
	someLists := [][][]int{nil, lists(), lists(nil), lists(nil, list(1)), costsA(), costsB(), costsC(), greatest(), lists(list(5)), lists(list(1, 1), list(0, 1)), lists(equal(5, 1)), lists(list(1), list(1), list(1), list(1)), make([][]int, 1000), lists(make([]int, 1000)), lists(list(math.MaxInt, math.MinInt), list(math.MinInt, -1))}
	some := lists(nil, list(), list(0), list(5), list(2, 1), list(1, 2), list(0, -1), list(1, 1, 1), equal(4, 3), list(0, 5, 5), list(math.MaxInt, math.MaxInt), list(math.MinInt, math.MinInt), equal(3, math.MaxInt), equal(1000, 1))
	for _, costs := range someLists {
		for i, first := range some {
			for k, second := range some {
				goes := someLists[(i+k)%len(someLists)]
				l, p := loads(first, second), prices(first, second)
				a, b := ofLoads(costs, l, goes, p), ofLoads(costs, l, goes, p)
				for name, r := range ofCosts(costs, p) {
					a[name], b[name] = r, ofCosts(costs, p)[name]
				}
				for name := range a {
					if !a[name].same(b[name]) || a[name].e != api.OK && !a[name].isZero() {
						t.Errorf("%s of %v, %v, %v, %v: %v, then %v", name, costs, l, goes, p, a[name], b[name])
					}
				}
			}
		}
	}
}

// R4: what a caller does with a result changes nothing else.
func TestMemory(t *testing.T) {
	straight, costs := lists(list(1, 2, 4), list(2, 1, 2)), lists(list(4, 2, 1), list(2, 1, 2))
	l, goes, p := loads(list(3, 2), list(1, 3, 1)), lists(list(1, 2, 0), list(0, 1, 1)), prices(list(0, -1), list(1, 2, 3))
	both := func(a, b []int, e api.Errno) [][]int { return lists(a, b, list(int(e))) }
	for name, f := range map[string]func() [][]int{
		"Corner":   func() [][]int { return must(deal.Corner(costs, l)) },
		"Cheapest": func() [][]int { return must(deal.Cheapest(costs, l)) },
		"Why":      func() [][]int { return lists(must(deal.Why(costs))) },
		"Orders":   func() [][]int { return both(deal.Orders(costs)) },
		"Prove":    func() [][]int { return priced(deal.Prove(straight, l)).lists },
		"the others": func() [][]int {
			return lists(list(must(deal.Cost(costs, l, goes)), must(deal.Count(costs, l)), int(deal.Priced(straight, p)), int(deal.Proves(straight, l, goes, p))))
		},
	} {
		before, want := f(), f()
		for i, l := range before {
			// what is appended to a list is not written into the next one
			_ = append(l, -1, -1)
			if !sameLists(before, want) {
				t.Errorf("%s: %v after more was appended to list %d, want %v", name, before, i, want)
			}
		}
		for i, l := range before {
			for k := range l[:cap(l)] {
				l[:cap(l)][k] = -1
			}
			if !sameLists(before[i+1:], want[i+1:]) {
				t.Errorf("%s: %v after list %d was changed, want %v", name, before, i, want)
			}
		}
		if got := f(); !sameLists(got, want) {
			t.Errorf("%s: %v after its result was changed, want %v", name, got, want)
		}
	}
	if !sameLists(straight, lists(list(1, 2, 4), list(2, 1, 2))) || !sameLists(costs, lists(list(4, 2, 1), list(2, 1, 2))) {
		t.Errorf("costs were changed: %v %v", straight, costs)
	}
	if !sameLists(goes, lists(list(1, 2, 0), list(0, 1, 1))) || !sameLists(lists(l.Has, l.Wants, p.Heaps, p.Buyers), lists(list(3, 2), list(1, 3, 1), list(0, -1), list(1, 2, 3))) {
		t.Errorf("an argument was changed: %v %v %v", goes, l, p)
	}
}

// What lies behind an argument in its memory is not written to.
func TestMemoryBehindArguments(t *testing.T) {
	memory := list(1, 2, 2, 1, 2, 1, 1, 2, 1, 1, 0, 1, 0, -1, 1, 2, 9, 9)
	kept := slices.Clone(memory)
	costs, goes := lists(memory[:2], memory[2:4], list(9)), lists(memory[8:10], memory[10:12], list(9))
	l, p := loads(memory[4:6], memory[6:8]), prices(memory[12:14], memory[14:16])
	for name, r := range ofLoads(costs[:2], l, goes[:2], p) {
		if r.e != api.OK {
			t.Errorf("%s: %d", name, r.e)
		}
	}
	ofCosts(costs[:2], p)
	if !slices.Equal(memory, kept) || !slices.Equal(costs[2], list(9)) || !slices.Equal(goes[2], list(9)) {
		t.Errorf("changed: %v, want %v", memory, kept)
	}
}
