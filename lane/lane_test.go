package lane_test

import (
	"math"
	"slices"
	"testing"

	"breeze/api"
	"breeze/lane"
)

func list(l ...int) []int { return l }

func lists(l ...[]int) [][]int { return l }

func sameLists(a, b [][]int) bool { return slices.EqualFunc(a, b, slices.Equal[[]int]) }

func cloned(l [][]int) [][]int {
	var out [][]int
	for _, x := range l {
		out = append(out, slices.Clone(x))
	}
	return out
}

// must is a result that may not be refused.
func must[T any](result T, e api.Errno) T {
	if e != api.OK {
		panic(e)
	}
	return result
}

func parish(rows, columns int, shut ...int) lane.Parish {
	return lane.Parish{Rows: rows, Columns: columns, Shut: shut}
}

func places(yards, tips []int) lane.Places { return lane.Places{Yards: yards, Tips: tips} }

// The parishes P, Q and S and the places X, Y and Z of the chapter's examples.
func open() lane.Parish   { return parish(3, 3) }
func middle() lane.Parish { return parish(3, 3, 4) }
func narrow() lane.Parish { return parish(3, 3, 3, 5) }
func along() lane.Places  { return places(list(1, 3), list(5, 7)) }
func across() lane.Places { return places(list(1, 3), list(7, 5)) }
func ends() lane.Places   { return places(list(0, 1), list(7, 8)) }

// three has three carts, all of which a parish of four rows and columns lets through.
func three() lane.Places { return places(list(2, 5, 8), list(7, 10, 13)) }

// P4.1

var checks = []struct {
	name string
	p    lane.Parish
	x    lane.Places
	want api.Errno
}{
	{"P and X", open(), along(), api.OK},
	{"Q and X", middle(), along(), api.OK},
	{"S and Z", narrow(), ends(), api.OK},
	{"one corner", parish(1, 1), places(list(0), list(0)), api.OK},
	{"a row", parish(1, 4), places(list(3), list(0)), api.OK},
	{"a column", parish(4, 1), places(list(0, 1), list(3, 2)), api.OK},
	{"three carts", parish(4, 4), three(), api.OK},
	{"all else shut", parish(2, 2, 1, 2, 3), places(list(0), list(0)), api.OK},
	{"empty list of shut corners", lane.Parish{Rows: 1, Columns: 1, Shut: []int{}}, places(list(0), list(0)), api.OK},
	{"yards are tips", parish(2, 2), places(list(3, 0), list(0, 3)), api.OK},
	{"5 rows", parish(5, 3), along(), api.ErrRange},
	{"5 columns", parish(3, 5), along(), api.ErrRange},
	{"0 rows", parish(0, 3), along(), api.ErrRange},
	{"0 columns", parish(3, 0), along(), api.ErrRange},
	{"-1 rows and columns", parish(-1, -1), places(list(0), list(0)), api.ErrRange},
	{"most rows", parish(math.MaxInt, 4), along(), api.ErrRange},
	{"least columns", parish(4, math.MinInt), along(), api.ErrRange},
	{"rows, and all else", parish(0, 0, 7, 7), places(nil, list(9)), api.ErrRange},
	{"shut 9", parish(3, 3, 9), along(), api.ErrNone},
	{"shut -1", parish(3, 3, -1), along(), api.ErrNone},
	{"shut 4 of a row", parish(1, 4, 4), places(list(0), list(0)), api.ErrNone},
	{"shut greatest", parish(3, 3, 4, math.MaxInt), along(), api.ErrNone},
	{"shut least", parish(3, 3, 4, math.MinInt), along(), api.ErrNone},
	{"shut 4 twice", parish(3, 3, 4, 4), along(), api.ErrOrder},
	{"shut 4, 0", parish(3, 3, 4, 0), along(), api.ErrOrder},
	{"shut 4, 0, 9", parish(3, 3, 4, 0, 9), along(), api.ErrOrder},
	{"shut 4, 9, 0", parish(3, 3, 4, 9, 0), along(), api.ErrNone},
	{"shut, and one tip", parish(3, 3, 9), places(list(1, 3), list(5)), api.ErrNone},
	{"one tip", open(), places(list(1, 3), list(5)), api.ErrShape},
	{"one yard", open(), places(list(1), list(5, 7)), api.ErrShape},
	{"no tips", open(), places(list(1, 3), nil), api.ErrShape},
	{"four yards and one tip", open(), places(list(0, 1, 2, 3), list(5)), api.ErrShape},
	{"four tips and no yards", open(), places(nil, list(0, 1, 2, 3)), api.ErrShape},
	{"shape, and wrong corners", open(), places(list(9), list(9, 9)), api.ErrShape},
	{"nothing", open(), lane.Places{}, api.ErrEmpty},
	{"empty lists", open(), places(list(), list()), api.ErrEmpty},
	{"four carts", open(), places(list(0, 1, 2, 3), list(5, 6, 7, 8)), api.ErrMany},
	{"four wrong carts", open(), places(list(9, 9, 9, 9), list(9, 9, 9, 9)), api.ErrMany},
	{"yard 9", open(), places(list(1, 9), list(5, 7)), api.ErrNone},
	{"yard -1", open(), places(list(-1, 3), list(5, 7)), api.ErrNone},
	{"greatest yard", open(), places(list(math.MaxInt), list(5)), api.ErrNone},
	{"tip 9", open(), places(list(1, 3), list(5, 9)), api.ErrNone},
	{"least tip", open(), places(list(1, 3), list(5, math.MinInt)), api.ErrNone},
	{"Q and the yard 4", middle(), places(list(4), list(5)), api.ErrShut},
	{"Q and the tip 4", middle(), places(list(1, 3), list(5, 4)), api.ErrShut},
	{"the last shut corner", parish(3, 3, 0, 4), places(list(4), list(5)), api.ErrShut},
	{"yard 1 twice", open(), places(list(1, 1), list(5, 7)), api.ErrTwice},
	{"yard 1 twice, far", open(), places(list(1, 3, 1), list(5, 7, 8)), api.ErrTwice},
	{"tip 7 twice", open(), places(list(1, 3), list(7, 7)), api.ErrTwice},
	{"twice and shut", middle(), places(list(4, 4), list(5, 7)), api.ErrShut},
	{"twice and none", open(), places(list(9, 9), list(5, 7)), api.ErrNone},
	// the first number with an error decides, the yards before the tips
	{"twice before none", open(), places(list(1, 1, 9), list(5, 7, 8)), api.ErrTwice},
	{"none before twice", open(), places(list(1, 9, 1), list(5, 7, 8)), api.ErrNone},
	{"shut before none", middle(), places(list(4, 9), list(5, 7)), api.ErrShut},
	{"none before shut", middle(), places(list(9, 4), list(5, 7)), api.ErrNone},
	{"twice before shut", middle(), places(list(1, 1, 4), list(5, 7, 8)), api.ErrTwice},
	{"a yard twice, a tip none", open(), places(list(1, 1), list(9, 7)), api.ErrTwice},
	{"a yard shut, a tip none", middle(), places(list(1, 4), list(9, 7)), api.ErrShut},
	{"a yard none, a tip shut", middle(), places(list(1, 9), list(4, 7)), api.ErrNone},
}

func TestCheck(t *testing.T) {
	for _, c := range checks {
		if e := lane.Check(c.p, c.x); e != c.want {
			t.Errorf("%s: %d, want %d", c.name, e, c.want)
		}
	}
}

type result struct {
	number int
	lists  [][]int
	e      api.Errno
}

func (r result) same(other result) bool {
	return r.number == other.number && sameLists(r.lists, other.lists) && r.e == other.e
}

func number(n int, e api.Errno) result      { return result{number: n, e: e} }
func one(l []int, e api.Errno) result       { return several(lists(l), e) }
func several(l [][]int, e api.Errno) result { return result{lists: l, e: e} }
func nothing(e api.Errno) result            { return result{e: e} }

// isZero tells whether there is nothing but an error.
func (r result) isZero() bool { return r.number == 0 && len(slices.Concat(r.lists...)) == 0 }

// calls returns what all functions say, of a family and of its numbers.
func calls(p lane.Parish, x lane.Places, family [][]int) map[string]result {
	corners := slices.Concat(family...)
	corner := 0
	if len(corners) > 0 {
		corner = corners[0]
	}
	return map[string]result{
		"Check":  nothing(lane.Check(p, x)),
		"Ways":   number(lane.Ways(p, x, corner, corner)),
		"Table":  several(lane.Table(p, x)),
		"Signed": number(lane.Signed(p, x)),
		"Count":  number(lane.Count(p, x)),
		"First":  several(lane.First(p, x)),
		"Order":  one(lane.Order(p, x, family)),
		"Apart":  nothing(lane.Apart(p, x, family)),
		"Swap":   several(lane.Swap(p, x, family)),
		"Bar":    one(lane.Bar(p, x)),
		"Proves": nothing(lane.Proves(p, x, corners)),
	}
}

// All functions return Check's error before any of their own.
func TestCheckComesFirst(t *testing.T) {
	for _, c := range checks {
		if c.want == api.OK {
			continue
		}
		for _, family := range [][][]int{nil, {nil}, {{9, 9}}, {{1, 4, 5}, {3, 4, 7}}} {
			for name, r := range calls(c.p, c.x, family) {
				if !r.isZero() || r.e != c.want {
					t.Errorf("%s of %s: %v, want %d", name, c.name, r, c.want)
				}
			}
		}
	}
}

// P4.2

func TestWays(t *testing.T) {
	for _, c := range []struct {
		name     string
		p        lane.Parish
		from, to int
		want     int
		e        api.Errno
	}{
		{"P", open(), 0, 8, 6, api.OK},
		{"P", open(), 1, 5, 2, api.OK},
		{"P", open(), 8, 0, 0, api.OK},
		{"P", open(), 4, 4, 1, api.OK},
		{"P", open(), 0, 9, 0, api.ErrNone},
		{"P", open(), 9, 0, 0, api.ErrNone},
		{"P", open(), -1, 0, 0, api.ErrNone},
		{"P", open(), 0, -1, 0, api.ErrNone},
		{"P", open(), math.MaxInt, math.MaxInt, 0, api.ErrNone},
		{"P", open(), math.MinInt, 4, 0, api.ErrNone},
		{"P, backwards", open(), 1, 0, 0, api.OK},
		{"P, upwards", open(), 3, 0, 0, api.OK},
		{"P, to the next row", open(), 2, 3, 0, api.OK},
		{"P, below and to the left", open(), 1, 3, 0, api.OK},
		{"P, above and to the right", open(), 3, 1, 0, api.OK},
		{"Q", middle(), 0, 8, 2, api.OK},
		{"Q, from a shut corner", middle(), 4, 8, 0, api.OK},
		{"Q, to a shut corner", middle(), 0, 4, 0, api.OK},
		{"Q, at a shut corner", middle(), 4, 4, 0, api.OK},
		{"S", narrow(), 0, 8, 1, api.OK},
		{"all ways", parish(4, 4), 0, 15, 20, api.OK},
		{"2 rows", parish(2, 4), 0, 7, 4, api.OK},
		{"2 columns", parish(4, 2), 0, 7, 4, api.OK},
		{"2 columns, to the next row", parish(4, 2), 1, 2, 0, api.OK},
		{"a row", parish(1, 4), 0, 3, 1, api.OK},
		{"a column", parish(4, 1), 0, 3, 1, api.OK},
		{"a column", parish(4, 1), 0, 4, 0, api.ErrNone},
	} {
		x := places(list(0), list(0))
		if n, e := lane.Ways(c.p, x, c.from, c.to); n != c.want || e != c.e {
			t.Errorf("Ways of %s: %d to %d: %d %d, want %d %d", c.name, c.from, c.to, n, e, c.want, c.e)
		}
	}
}

// P4.2, P4.3 and P4.6

func TestFamilies(t *testing.T) {
	for _, c := range []struct {
		name          string
		p             lane.Parish
		x             lane.Places
		table         [][]int
		signed, count int
		first         [][]int
		bar           []int
	}{
		{"P and X", open(), along(), lists(list(2, 1), list(1, 2)), 3, 3, lists(list(1, 2, 5), list(3, 4, 7)), nil},
		{"P and Y", open(), across(), lists(list(1, 2), list(2, 1)), -3, 3, lists(list(1, 2, 5), list(3, 4, 7)), nil},
		{"Q and X", middle(), along(), lists(list(1, 0), list(0, 1)), 1, 1, lists(list(1, 2, 5), list(3, 6, 7)), nil},
		{"S and Z", narrow(), ends(), lists(list(1, 1), list(1, 1)), 0, 0, nil, list(1)},
		{"one corner", parish(1, 1), places(list(0), list(0)), lists(list(1)), 1, 1, lists(list(0)), nil},
		{"no way", parish(1, 2), places(list(1), list(0)), lists(list(0)), 0, 0, nil, list()},
		{"no way for two carts", parish(2, 2), places(list(2, 3), list(0, 1)), lists(list(0, 0), list(0, 0)), 0, 0, nil, list()},
		{"a way for one cart", parish(1, 3), places(list(0, 2), list(0, 1)), lists(list(1, 1), list(0, 0)), 0, 0, nil, list(0)},
		{"yards are tips", parish(1, 2), places(list(0, 1), list(1, 0)), lists(list(1, 1), list(1, 0)), -1, 1, lists(list(0), list(1)), nil},
		{"a tip on the way", parish(1, 3), places(list(0, 1), list(1, 2)), lists(list(1, 1), list(1, 1)), 0, 0, nil, list(1)},
		{"a tip behind the other one", parish(2, 3), places(list(0, 3), list(1, 5)), lists(list(1, 3), list(0, 1)), 1, 1, lists(list(0, 1), list(3, 4, 5)), nil},
		{"the yard of the other cart", parish(2, 2), places(list(0, 1), list(2, 3)), lists(list(1, 2), list(0, 1)), 1, 1, lists(list(0, 2), list(1, 3)), nil},
		{"three carts", parish(4, 4), three(), lists(list(2, 1, 0), list(1, 2, 1), list(0, 1, 2)), 4, 4, lists(list(2, 3, 7), list(5, 6, 10), list(8, 9, 13)), nil},
		{"two corners bar three carts", parish(3, 3), places(list(0, 1, 3), list(5, 7, 8)), lists(list(3, 3, 6), list(2, 1, 3), list(1, 2, 3)), 0, 0, nil, list(1, 3)},
	} {
		if l, e := lane.Table(c.p, c.x); !sameLists(l, c.table) || e != api.OK {
			t.Errorf("Table of %s: %v %d, want %v", c.name, l, e, c.table)
		}
		if n, e := lane.Signed(c.p, c.x); n != c.signed || e != api.OK {
			t.Errorf("Signed of %s: %d %d, want %d", c.name, n, e, c.signed)
		}
		if n, e := lane.Count(c.p, c.x); n != c.count || e != api.OK {
			t.Errorf("Count of %s: %d %d, want %d", c.name, n, e, c.count)
		}
		lost, clash := api.OK, api.ErrClash
		if c.count == 0 {
			lost, clash = api.ErrLost, api.OK
		}
		if l, e := lane.First(c.p, c.x); !sameLists(l, c.first) || e != lost {
			t.Errorf("First of %s: %v %d, want %v %d", c.name, l, e, c.first, lost)
		}
		if l, e := lane.Bar(c.p, c.x); !slices.Equal(l, c.bar) || e != clash {
			t.Errorf("Bar of %s: %v %d, want %v %d", c.name, l, e, c.bar, clash)
		}
	}
}

// P4.4

var families = []struct {
	name   string
	p      lane.Parish
	x      lane.Places
	family [][]int
	order  []int
	e      api.Errno
	apart  api.Errno
}{
	{"of X", open(), along(), lists(list(1, 2, 5), list(3, 4, 7)), list(0, 1), api.OK, api.OK},
	{"of Y", open(), across(), lists(list(1, 2, 5), list(3, 4, 7)), list(1, 0), api.OK, api.OK},
	{"that meets at 4", open(), along(), lists(list(1, 4, 5), list(3, 4, 7)), list(0, 1), api.OK, api.ErrClash},
	{"that crosses at 4", open(), along(), lists(list(1, 4, 7), list(3, 4, 5)), list(1, 0), api.OK, api.ErrClash},
	{"of one corner", parish(1, 1), places(list(0), list(0)), lists(list(0)), list(0), api.OK, api.OK},
	{"of three carts", parish(4, 4), three(), lists(list(2, 6, 7), list(5, 9, 10), list(8, 12, 13)), list(0, 1, 2), api.OK, api.OK},
	{"of which the last two meet", parish(4, 4), three(), lists(list(2, 3, 7), list(5, 9, 10), list(8, 9, 13)), list(0, 1, 2), api.OK, api.ErrClash},
	{"of which the first and last meet", parish(3, 3), places(list(1, 2, 3), list(4, 5, 7)), lists(list(1, 4), list(2, 5), list(3, 4, 7)), list(0, 1, 2), api.OK, api.ErrClash},
	{"with a tip on the way", parish(1, 3), places(list(0, 1), list(1, 2)), lists(list(0, 1, 2), list(1)), list(1, 0), api.OK, api.ErrClash},
	{"with none", open(), along(), nil, nil, api.ErrShape, 0},
	{"with one way", open(), along(), lists(list(1, 2, 5)), nil, api.ErrShape, 0},
	{"with three ways", open(), along(), lists(list(1, 2, 5), list(3, 4, 7), list(6)), nil, api.ErrShape, 0},
	{"with three wrong ways", open(), along(), lists(nil, list(9), list(4, 0)), nil, api.ErrShape, 0},
	{"with an empty way", open(), along(), lists(list(1, 2, 5), nil), nil, api.ErrEmpty, 0},
	{"with an empty way first", open(), along(), lists(list(), list(9)), nil, api.ErrEmpty, 0},
	{"with 9", open(), along(), lists(list(1, 2, 9), list(3, 4, 7)), nil, api.ErrNone, 0},
	{"with -1", open(), along(), lists(list(-1, 2, 5), list(3, 4, 7)), nil, api.ErrNone, 0},
	{"with the greatest number", open(), along(), lists(list(1, 2, 5), list(3, 4, math.MaxInt)), nil, api.ErrNone, 0},
	{"with the least number", open(), along(), lists(list(1, 2, 5), list(math.MinInt)), nil, api.ErrNone, 0},
	{"with 4 shut", middle(), along(), lists(list(1, 4, 5), list(3, 6, 7)), nil, api.ErrShut, 0},
	{"that begins at a shut corner", middle(), along(), lists(list(4, 5), list(3, 6, 7)), nil, api.ErrShut, 0},
	{"with a jump to a shut corner", middle(), along(), lists(list(0, 4), list(3, 6, 7)), nil, api.ErrShut, 0},
	{"with a jump to the right", open(), along(), lists(list(3, 5), list(3, 4, 7)), nil, api.ErrOrder, 0},
	{"with a jump down", open(), along(), lists(list(1, 7), list(3, 4, 7)), nil, api.ErrOrder, 0},
	{"with a jump aslant", open(), along(), lists(list(1, 5), list(3, 4, 7)), nil, api.ErrOrder, 0},
	{"with a jump to the next row", open(), along(), lists(list(1, 2, 3, 4, 5), list(3, 4, 7)), nil, api.ErrOrder, 0},
	{"with a step back", open(), along(), lists(list(1, 2, 1, 4, 5), list(3, 4, 7)), nil, api.ErrOrder, 0},
	{"with a step up", open(), along(), lists(list(1, 4, 1, 2, 5), list(3, 4, 7)), nil, api.ErrOrder, 0},
	{"that stays", open(), along(), lists(list(1, 1, 2, 5), list(3, 4, 7)), nil, api.ErrOrder, 0},
	{"to the next corner of one column", parish(4, 1), places(list(0), list(2)), lists(list(0, 1, 2)), list(0), api.OK, api.OK},
	{"from another corner", open(), along(), lists(list(2, 5), list(3, 4, 7)), nil, api.ErrLost, 0},
	{"from the other yard", open(), along(), lists(list(3, 4, 7), list(1, 2, 5)), nil, api.ErrLost, 0},
	{"to no tip", open(), along(), lists(list(1, 2), list(3, 4, 7)), nil, api.ErrLost, 0},
	{"to no tip, behind one", open(), along(), lists(list(1, 2, 5, 8), list(3, 4, 7)), nil, api.ErrLost, 0},
	{"to the same tip", open(), along(), lists(list(1, 2, 5), list(3, 4, 5)), nil, api.ErrTwice, 0},
	{"to the same tip, far", parish(4, 4), three(), lists(list(2, 6, 10), list(5, 6, 7), list(8, 9, 10)), nil, api.ErrTwice, 0},
	{"from another corner to the same tip", open(), along(), lists(list(1, 2, 5), list(4, 5)), nil, api.ErrLost, 0},
	// the first way with an error decides, and in it the first number before all else
	{"to no tip, then an empty way", open(), along(), lists(list(1), nil), nil, api.ErrLost, 0},
	{"an empty way, then one to no tip", open(), along(), lists(nil, list(3)), nil, api.ErrEmpty, 0},
	{"to the same tip, then none", parish(4, 4), three(), lists(list(2, 6, 10), list(5, 6, 10), list(16)), nil, api.ErrTwice, 0},
	{"none, then to the same tip", parish(4, 4), three(), lists(list(2, 6, 10), list(16), list(8, 9, 10)), nil, api.ErrNone, 0},
	{"from another corner, then none", open(), along(), lists(list(0, 1, 9), list(3, 4, 7)), nil, api.ErrNone, 0},
	{"a jump, then none", open(), along(), lists(list(1, 5, 9), list(3, 4, 7)), nil, api.ErrOrder, 0},
	{"none, then a jump", open(), along(), lists(list(1, 9, 5), list(3, 4, 7)), nil, api.ErrNone, 0},
	{"shut, then none", middle(), along(), lists(list(1, 4, 9), list(3, 6, 7)), nil, api.ErrShut, 0},
	{"none, then shut", middle(), along(), lists(list(1, 9, 4), list(3, 6, 7)), nil, api.ErrNone, 0},
	{"a jump, then shut", middle(), along(), lists(list(1, 3, 4), list(3, 6, 7)), nil, api.ErrOrder, 0},
}

func TestOrder(t *testing.T) {
	for _, c := range families {
		if l, e := lane.Order(c.p, c.x, c.family); !slices.Equal(l, c.order) || e != c.e {
			t.Errorf("Order of a family %s: %v %d, want %v %d", c.name, l, e, c.order, c.e)
		}
		want := c.apart
		if c.e != api.OK {
			want = c.e
		}
		if e := lane.Apart(c.p, c.x, c.family); e != want {
			t.Errorf("Apart of a family %s: %d, want %d", c.name, e, want)
		}
		l, e := lane.Swap(c.p, c.x, c.family)
		if c.e != api.OK && (len(l) > 0 || e != c.e) {
			t.Errorf("Swap of a family %s: %v %d, want %d", c.name, l, e, c.e)
		}
		if c.e == api.OK && c.apart == api.OK && (len(l) > 0 || e != api.ErrClash) {
			t.Errorf("Swap of a family %s: %v %d", c.name, l, e)
		}
	}
}

// P4.5

func TestSwap(t *testing.T) {
	for _, c := range []struct {
		name         string
		p            lane.Parish
		x            lane.Places
		family, want [][]int
	}{
		{"P and X", open(), along(), lists(list(1, 4, 5), list(3, 4, 7)), lists(list(1, 4, 7), list(3, 4, 5))},
		{"P and Y", open(), across(), lists(list(1, 4, 7), list(3, 4, 5)), lists(list(1, 4, 5), list(3, 4, 7))},
		// of several corners the first one
		{"two corners", open(), places(list(0, 1), list(7, 8)), lists(list(0, 1, 4, 7), list(1, 4, 5, 8)), lists(list(0, 1, 4, 5, 8), list(1, 4, 7))},
		{"two meetings", parish(4, 4), places(list(1, 4), list(14, 11)), lists(list(1, 5, 6, 10, 14), list(4, 5, 9, 10, 11)), lists(list(1, 5, 9, 10, 11), list(4, 5, 6, 10, 14))},
		// what comes behind the corner may be nothing
		{"the last corner of one way", parish(1, 3), places(list(0, 1), list(1, 2)), lists(list(0, 1, 2), list(1)), lists(list(0, 1), list(1, 2))},
		{"the first corner of one way", parish(1, 3), places(list(1, 0), list(1, 2)), lists(list(1), list(0, 1, 2)), lists(list(1, 2), list(0, 1))},
		// of several carts the smallest one, and of those that meet it, too
		{"three carts at one corner", parish(3, 4), places(list(1, 4, 5), list(6, 9, 10)), lists(list(1, 5, 6), list(4, 5, 9), list(5, 6, 10)), lists(list(1, 5, 9), list(4, 5, 6), list(5, 6, 10))},
		{"three carts, the last one at first", parish(3, 4), places(list(1, 4, 2), list(9, 6, 10)), lists(list(1, 2, 6, 10), list(4, 5, 9), list(2, 6)), lists(list(1, 2, 6), list(4, 5, 9), list(2, 6, 10))},
		{"not the first cart", parish(4, 4), three(), lists(list(2, 3, 7), list(5, 9, 10), list(8, 9, 13)), lists(list(2, 3, 7), list(5, 9, 13), list(8, 9, 10))},
		{"the first and the last cart before the second one", parish(3, 3), places(list(0, 2, 3), list(5, 7, 8)), lists(list(0, 3, 4, 5), list(2, 5, 8), list(3, 4, 7)), lists(list(0, 3, 4, 7), list(2, 5, 8), list(3, 4, 5))},
		{"the second cart at another corner than the last one", parish(3, 4), places(list(0, 5, 1), list(9, 10, 6)), lists(list(0, 1, 5, 9), list(5, 9, 10), list(1, 2, 6)), lists(list(0, 1, 2, 6), list(5, 9, 10), list(1, 5, 9))},
	} {
		if l, e := lane.Swap(c.p, c.x, c.family); !sameLists(l, c.want) || e != api.OK {
			t.Errorf("Swap of %s: %v: %v %d, want %v", c.name, c.family, l, e, c.want)
		}
		if l, e := lane.Swap(c.p, c.x, c.want); !sameLists(l, c.family) || e != api.OK {
			t.Errorf("Swap of %s: %v: %v %d, want %v", c.name, c.want, l, e, c.family)
		}
	}
}

// P4.6

func TestProves(t *testing.T) {
	for _, c := range []struct {
		name    string
		p       lane.Parish
		x       lane.Places
		corners []int
		want    api.Errno
	}{
		{"S and Z", narrow(), ends(), list(4), api.OK},
		{"S and Z", narrow(), ends(), list(1), api.OK},
		{"S and Z", narrow(), ends(), list(7), api.OK},
		{"S and Z, as many as carts", narrow(), ends(), list(1, 4), api.ErrProof},
		{"S and Z, one tip", narrow(), ends(), list(8), api.ErrProof},
		{"S and Z, one yard", narrow(), ends(), list(0), api.ErrProof},
		{"S and Z, shut", narrow(), ends(), list(3), api.ErrProof},
		{"S and Z", narrow(), ends(), nil, api.ErrProof},
		{"S and Z, twice", narrow(), ends(), list(1, 1), api.ErrOrder},
		{"S and Z, descending", narrow(), ends(), list(4, 1), api.ErrOrder},
		{"S and Z", narrow(), ends(), list(9), api.ErrNone},
		{"S and Z", narrow(), ends(), list(-1), api.ErrNone},
		{"S and Z", narrow(), ends(), list(math.MaxInt), api.ErrNone},
		{"S and Z", narrow(), ends(), list(4, math.MinInt), api.ErrNone},
		{"S and Z, descending before none", narrow(), ends(), list(4, 1, 9), api.ErrOrder},
		{"S and Z, none before descending", narrow(), ends(), list(4, 9, 1), api.ErrNone},
		{"P and X", open(), along(), list(4), api.ErrProof},
		{"P and X, all corners", open(), along(), list(0, 1, 2, 3, 4, 5, 6, 7, 8), api.ErrProof},
		// where there is no way, no corner is enough, and others do no harm
		{"no way", parish(1, 2), places(list(1), list(0)), nil, api.OK},
		{"no way, one corner", parish(1, 2), places(list(1), list(0)), list(0), api.ErrProof},
		{"no way for two carts", parish(2, 2), places(list(2, 3), list(0, 1)), nil, api.OK},
		{"no way for two carts", parish(2, 2), places(list(2, 3), list(0, 1)), list(3), api.OK},
		{"a yard that is a tip", parish(1, 2), places(list(0), list(0)), nil, api.ErrProof},
		{"a yard that is a tip, and no other way", parish(2, 2), places(list(3, 1), list(3, 0)), list(3), api.OK},
		{"a yard that is a tip, and no other way", parish(2, 2), places(list(3, 1), list(3, 0)), list(1), api.ErrProof},
		{"three carts", parish(3, 3), places(list(0, 1, 3), list(5, 7, 8)), list(1, 3), api.OK},
		{"three carts", parish(3, 3), places(list(0, 1, 3), list(5, 7, 8)), list(5, 7), api.OK},
		{"three carts", parish(3, 3), places(list(0, 1, 3), list(5, 7, 8)), list(3, 4), api.ErrProof},
		{"three carts", parish(3, 3), places(list(0, 1, 3), list(5, 7, 8)), list(1), api.ErrProof},
		{"three carts, as many", parish(3, 3), places(list(0, 1, 3), list(5, 7, 8)), list(1, 3, 4), api.ErrProof},
	} {
		if e := lane.Proves(c.p, c.x, c.corners); e != c.want {
			t.Errorf("Proves of %s: %v: %d, want %d", c.name, c.corners, e, c.want)
		}
	}
}

// P1: each function ends, does not panic, and returns the same for the same arguments.
func TestAllArguments(t *testing.T) {
	sides := list(-1, 0, 1, 2, 4, 5, math.MaxInt, math.MinInt)
	some := lists(nil, list(0), list(1, 2), list(2, 1), list(0, 0), list(0, 1, 2), list(3, 15), list(0, 1, 2, 3), list(-1), list(math.MaxInt, math.MinInt), make([]int, 1000))
	for _, rows := range sides {
		for _, columns := range sides {
			for _, shut := range some {
				for i, yards := range some {
					p, x := parish(rows, columns, shut...), places(yards, some[(i+1)%len(some)])
					if i%2 == 0 {
						x.Tips = slices.Clone(yards)
					}
					for _, family := range [][][]int{nil, {nil}, {{0}}, {{0, 1}, {2}}, {{1}, {2, 6}}, {{math.MaxInt, math.MinInt}, {-1}}, make([][]int, 1000), {make([]int, 1000)}} {
						a, b := calls(p, x, family), calls(p, x, family)
						for name := range a {
							if !a[name].same(b[name]) || a[name].e != api.OK && !a[name].isZero() {
								t.Errorf("%s of %v, %v and %v: %v, then %v", name, p, x, family, a[name], b[name])
							}
						}
					}
				}
			}
		}
	}
}

// R4: arguments are not changed, and what a caller does with a result changes nothing else.
func TestMemory(t *testing.T) {
	p, x := parish(4, 4, 0, 15), three()
	family := lists(list(2, 3, 7), list(5, 9, 10), list(8, 9, 13))
	barred, two := parish(3, 3, 3, 5), ends()
	for name, f := range map[string]func() [][]int{
		"Table": func() [][]int { return must(lane.Table(p, x)) },
		"First": func() [][]int { return must(lane.First(p, x)) },
		"Order": func() [][]int { return lists(must(lane.Order(p, x, family))) },
		"Swap":  func() [][]int { return must(lane.Swap(p, x, family)) },
		"Bar":   func() [][]int { return lists(must(lane.Bar(barred, two))) },
		"the others": func() [][]int {
			return lists(list(must(lane.Ways(p, x, 1, 14)), must(lane.Signed(p, x)), must(lane.Count(p, x)), int(lane.Apart(p, x, family)), int(lane.Proves(barred, two, list(4)))))
		},
	} {
		before := f()
		want := cloned(before)
		for i, l := range before {
			for j := range l {
				l[j] = -1
			}
			before[i] = append(l, -1)
			if k := i + 1; k < len(before) && !slices.Equal(before[k], want[k]) {
				t.Errorf("%s: the lists %d and %d share memory", name, i, k)
			}
		}
		if got := f(); !sameLists(got, want) {
			t.Errorf("%s: %v after its result was changed, want %v", name, got, want)
		}
	}
	same := slices.Equal(p.Shut, list(0, 15)) && slices.Equal(x.Yards, three().Yards) && slices.Equal(x.Tips, three().Tips)
	same = same && sameLists(family, lists(list(2, 3, 7), list(5, 9, 10), list(8, 9, 13)))
	same = same && slices.Equal(barred.Shut, list(3, 5)) && slices.Equal(two.Yards, ends().Yards) && slices.Equal(two.Tips, ends().Tips)
	if !same {
		t.Errorf("an argument was changed: %v %v %v %v %v", p, x, family, barred, two)
	}
}

// What lies behind an argument in its memory is not written to.
func TestMemoryBehindArguments(t *testing.T) {
	shut := list(3, 5, 7, 7)
	p, x := parish(3, 3, shut[:2]...), ends()
	if l := must(lane.Bar(p, x)); !slices.Equal(l, list(1)) {
		t.Errorf("Bar: %v", l)
	}
	if e := lane.Proves(p, x, list(4)); e != api.OK {
		t.Errorf("Proves: %d", e)
	}
	memory := list(1, 4, 5, 3, 4, 7)
	family := lists(memory[:3], memory[3:])
	if l := must(lane.Swap(open(), along(), family)); !sameLists(l, lists(list(1, 4, 7), list(3, 4, 5))) {
		t.Errorf("Swap: %v", l)
	}
	if !slices.Equal(shut, list(3, 5, 7, 7)) || !slices.Equal(memory, list(1, 4, 5, 3, 4, 7)) {
		t.Errorf("changed: %v %v", shut, memory)
	}
}
