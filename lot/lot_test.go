package lot_test

import (
	"math"
	"slices"
	"testing"

	"breeze/api"
	"breeze/lot"
)

func list(l ...int) []int { return l }

func lists(l ...[]int) [][]int { return l }

func sameLists(a, b [][]int) bool { return slices.EqualFunc(a, b, slices.Equal[[]int]) }

// must is a result that may not be refused.
func must[T any](result T, e api.Errno) T {
	if e != api.OK {
		panic(e)
	}
	return result
}

// The loads A and B of the chapter's examples.

func loadsA() []int { return list(1, 1, 2, 2) }

func loadsB() []int { return list(1, 1, 2, 2, 0) }

// equal are so many equal loads.
func equal(many, weight int) []int { return slices.Repeat(list(weight), many) }

// P7.1

var checks = []struct {
	name  string
	stone int
	loads []int
	want  api.Errno
}{
	{"A", 3, loadsA(), api.OK},
	{"B", 3, loadsB(), api.OK},
	{"no loads", 1, nil, api.OK},
	{"an empty list", 6, list(), api.OK},
	{"the greatest stone", 6, list(1), api.OK},
	{"the smallest and the greatest weight", 2, list(0, 1000), api.OK},
	{"twelve loads", 6, equal(12, 1000), api.OK},
	{"a stone of 0", 0, loadsA(), api.ErrRange},
	{"a stone of -1", -1, loadsA(), api.ErrRange},
	{"a stone of 7", 7, nil, api.ErrRange},
	{"the greatest number as a stone", math.MaxInt, loadsA(), api.ErrRange},
	{"the least number as a stone", math.MinInt, loadsA(), api.ErrRange},
	{"thirteen loads", 3, equal(13, 1), api.ErrMany},
	{"a thousand loads", 3, equal(1000, 1), api.ErrMany},
	{"thirteen wrong loads", 3, equal(13, -1), api.ErrMany},
	{"a stone of 0, thirteen loads", 0, equal(13, 1), api.ErrRange},
	{"a stone of 7, a wrong load", 7, list(1001), api.ErrRange},
	{"-1", 3, list(-1), api.ErrRange},
	{"1001", 3, list(1001), api.ErrRange},
	{"-1 of a stone of 1", 1, list(-1), api.ErrRange},
	{"the last of twelve", 3, append(equal(11, 1), 1001), api.ErrRange},
	{"the first of twelve", 3, append(list(-1), equal(11, 1)...), api.ErrRange},
	{"the greatest number", 3, list(1, math.MaxInt), api.ErrRange},
	{"the least number", 3, list(math.MinInt, 1), api.ErrRange},
}

func TestCheck(t *testing.T) {
	for _, c := range checks {
		if e := lot.Check(c.stone, c.loads); e != c.want {
			t.Errorf("%s: %d, want %d", c.name, e, c.want)
		}
	}
}

type result struct {
	lists [][]int
	e     api.Errno
}

func (r result) same(other result) bool { return sameLists(r.lists, other.lists) && r.e == other.e }

func several(l [][]int, e api.Errno) result { return result{l, e} }
func single(l []int, e api.Errno) result    { return several(lists(l), e) }
func number(n int, e api.Errno) result      { return single(list(n), e) }
func pair(a, b int, e api.Errno) result     { return single(list(a, b), e) }
func nothing(e api.Errno) result            { return several(nil, e) }

// isZero tells whether there is nothing but an error.
func (r result) isZero() bool {
	return !slices.ContainsFunc(slices.Concat(r.lists...), func(n int) bool { return n != 0 })
}

// all returns what all functions say, with a lot, another list of loads, and how many are picked.
func all(stone int, loads, these, others []int, many int) map[string]result {
	return map[string]result{
		"Check":   nothing(lot.Check(stone, loads)),
		"Lot":     single(lot.Lot(stone, loads)),
		"Lots":    number(lot.Lots(stone, loads)),
		"Most":    several(lot.Most(stone, loads)),
		"Proves":  nothing(lot.Proves(stone, loads, these)),
		"Two":     pair(lot.Two(stone, loads)),
		"Without": single(lot.Without(stone)),
		"Some":    single(lot.Some(stone, loads)),
		"Row":     pair(lot.Row(stone, loads)),
		"Leaves":  single(lot.Leaves(stone, loads, many)),
		"Sums":    single(lot.Sums(stone, loads, others)),
	}
}

// All functions with loads return Check's error before any of their own.
func TestCheckComesFirst(t *testing.T) {
	for _, c := range checks {
		if c.want == api.OK {
			continue
		}
		for _, these := range lists(nil, list(0), list(9), list(1, 0, 0), list(-1, -1, -1)) {
			for _, many := range list(-1, 0, 1, 99) {
				for name, r := range all(c.stone, c.loads, these, list(-7), many) {
					if name != "Without" && (!r.isZero() || r.e != c.want) {
						t.Errorf("%s of %s: %v, want %d", name, c.name, r, c.want)
					}
				}
			}
		}
	}
}

// P7.2

func TestLots(t *testing.T) {
	for _, c := range []struct {
		stone int
		loads []int
		lot   []int
		many  int
		most  [][]int
	}{
		{3, loadsA(), nil, 0, nil},
		{3, loadsB(), list(0, 2, 4), 4, lists(list(0, 2, 4))},
		{1, list(5), list(0), 1, lists(list(0))},
		{1, list(5, 7, 0), list(0), 3, lists(list(0), list(1), list(2))},
		{2, list(1, 1, 0, 0, 1), list(0, 1), 4, lists(list(0, 1), list(2, 3))},
		{1, nil, nil, 0, nil},
		{6, nil, nil, 0, nil},
		// as many loads as a stone has pounds, or less
		{4, list(3, 3, 3, 3), list(0, 1, 2, 3), 1, lists(list(0, 1, 2, 3))},
		{4, list(1, 0, 0, 0), nil, 0, nil},
		{4, list(0, 0, 0), nil, 0, nil},
		{6, list(1000, 1000, 1000, 1000, 1000, 1000), list(0, 1, 2, 3, 4, 5), 1, lists(list(0, 1, 2, 3, 4, 5))},
		{2, list(0, 2, 4, 6), list(0, 1), 6, lists(list(0, 1), list(2, 3))},
		{3, list(0, 1, 0, 0, 1, 1), list(0, 2, 3), 2, lists(list(0, 2, 3), list(1, 4, 5))},
		{3, list(0, 1, 2, 1, 1, 0), list(0, 1, 2), 7, lists(list(0, 1, 2))},
		{3, list(0, 1, 2, 1, 1, 2, 2, 0, 0), list(0, 1, 2), 30, lists(list(0, 1, 2), list(3, 5, 7), list(4, 6, 8))},
		// of the loads that the first lot leaves there is no other one
		{3, list(0, 1, 2, 0, 0, 1, 1), list(0, 1, 2), 11, lists(list(0, 3, 4), list(1, 5, 6))},
		{6, equal(12, 0), list(0, 1, 2, 3, 4, 5), 924, lists(list(0, 1, 2, 3, 4, 5), list(6, 7, 8, 9, 10, 11))},
		{2, equal(12, 999), list(0, 1), 66, lists(list(0, 1), list(2, 3), list(4, 5), list(6, 7), list(8, 9), list(10, 11))},
	} {
		want := api.OK
		if c.many == 0 {
			want = api.ErrLost
		}
		if l, e := lot.Lot(c.stone, c.loads); !slices.Equal(l, c.lot) || e != want {
			t.Errorf("Lot of %d, %v: %v %d, want %v %d", c.stone, c.loads, l, e, c.lot, want)
		}
		if n, e := lot.Lots(c.stone, c.loads); n != c.many || e != api.OK {
			t.Errorf("Lots of %d, %v: %d %d, want %d", c.stone, c.loads, n, e, c.many)
		}
		if l, e := lot.Most(c.stone, c.loads); !sameLists(l, c.most) || e != api.OK {
			t.Errorf("Most of %d, %v: %v %d, want %v", c.stone, c.loads, l, e, c.most)
		}
	}
}

// P7.3

func TestProves(t *testing.T) {
	for _, c := range []struct {
		stone int
		loads []int
		lot   []int
		want  api.Errno
	}{
		{3, loadsB(), list(0, 2, 4), api.OK},
		{3, loadsB(), list(1, 3, 4), api.OK},
		{3, loadsB(), list(0, 1, 2), api.ErrProof},
		{3, loadsB(), list(0, 2), api.ErrShape},
		{3, loadsB(), nil, api.ErrShape},
		{3, loadsB(), list(0, 1, 2, 3), api.ErrShape},
		{3, loadsB(), list(9), api.ErrShape},
		{3, loadsB(), make([]int, 1000), api.ErrShape},
		{3, loadsB(), list(4, 2, 0), api.ErrOrder},
		{3, loadsB(), list(0, 0, 0), api.ErrOrder},
		{3, loadsB(), list(0, 4, 4), api.ErrOrder},
		{3, loadsB(), list(0, 2, 5), api.ErrNone},
		{3, loadsB(), list(-1, 2, 4), api.ErrNone},
		{3, loadsB(), list(math.MinInt, 2, 4), api.ErrNone},
		{3, loadsB(), list(0, 2, math.MaxInt), api.ErrNone},
		// the first number with an error decides
		{3, loadsB(), list(2, 0, 5), api.ErrOrder},
		{3, loadsB(), list(2, 5, 0), api.ErrNone},
		{3, loadsB(), list(2, -1, 0), api.ErrNone},
		{3, list(0, 0, 0), list(0, 1, 3), api.ErrNone},
		{1, list(5), list(0), api.OK},
		{1, list(5), list(1), api.ErrNone},
		{1, nil, nil, api.ErrShape},
		{1, nil, list(0), api.ErrNone},
		{6, equal(12, 1000), list(0, 2, 4, 6, 8, 11), api.OK},
		{6, append(equal(11, 1000), 999), list(0, 2, 4, 6, 8, 11), api.ErrProof},
	} {
		if e := lot.Proves(c.stone, c.loads, c.lot); e != c.want {
			t.Errorf("Proves of %d, %v: %v: %d, want %d", c.stone, c.loads, c.lot, e, c.want)
		}
	}
}

// P7.4

func TestTwo(t *testing.T) {
	for _, c := range []struct {
		stone int
		loads []int
		a, b  int
		e     api.Errno
	}{
		{3, loadsA(), 1, 2, api.OK},
		{3, list(2, 1, 2, 1), 1, 2, api.OK},
		{3, list(1000, 998, 998, 1000), 1, 2, api.OK},
		{3, list(0, 2, 999, 5), 0, 2, api.OK},
		{3, list(1, 2, 0, 0), 0, 0, api.ErrClash},
		{3, list(1, 1, 1, 1), 0, 0, api.ErrClash},
		{3, loadsB(), 0, 0, api.ErrShape},
		{3, list(1, 1, 2), 0, 0, api.ErrShape},
		{3, nil, 0, 0, api.ErrShape},
		{3, equal(6, 1), 0, 0, api.ErrShape},
		{2, list(7, 4), 0, 1, api.OK},
		{2, list(7, 5), 0, 0, api.ErrClash},
		{2, list(7), 0, 0, api.ErrShape},
		{1, nil, 0, 0, api.ErrShape},
		{1, list(1), 0, 0, api.ErrShape},
		{1, list(1, 2), 0, 0, api.ErrShape},
		{4, list(3, 0, 3, 0, 3, 0), 0, 3, api.OK},
		{4, list(2, 0, 2, 0, 2, 0), 0, 0, api.ErrClash},
		{6, list(2, 2, 2, 2, 2, 3, 3, 3, 3, 3), 2, 3, api.OK},
		{6, list(2, 2, 2, 2, 2, 4, 4, 4, 4, 4), 0, 0, api.ErrClash},
		{6, equal(9, 1), 0, 0, api.ErrShape},
	} {
		if a, b, e := lot.Two(c.stone, c.loads); a != c.a || b != c.b || e != c.e {
			t.Errorf("Two of %d, %v: %d %d %d, want %d %d %d", c.stone, c.loads, a, b, e, c.a, c.b, c.e)
		}
	}
}

func TestWithout(t *testing.T) {
	for _, c := range []struct {
		stone int
		want  []int
		e     api.Errno
	}{
		{1, nil, api.OK},
		{2, list(0, 1), api.OK},
		{3, list(0, 0, 1, 1), api.OK},
		{4, list(0, 0, 0, 1, 1, 1), api.OK},
		{5, list(0, 0, 0, 0, 1, 1, 1, 1), api.OK},
		{6, list(0, 0, 0, 0, 0, 1, 1, 1, 1, 1), api.OK},
		{0, nil, api.ErrRange},
		{-1, nil, api.ErrRange},
		{7, nil, api.ErrRange},
		{math.MaxInt, nil, api.ErrRange},
		{math.MinInt, nil, api.ErrRange},
	} {
		if l, e := lot.Without(c.stone); !slices.Equal(l, c.want) || e != c.e {
			t.Errorf("Without of %d: %v %d, want %v %d", c.stone, l, e, c.want, c.e)
		}
	}
}

// P7.5

func TestSome(t *testing.T) {
	for _, c := range []struct {
		stone int
		loads []int
		want  []int
		e     api.Errno
	}{
		{3, list(1, 1), nil, api.ErrLost},
		{3, list(1, 1, 1), list(0, 1, 2), api.OK},
		{3, list(1, 2, 1), list(0, 1), api.OK},
		{3, list(1, 0), list(1), api.OK},
		{3, nil, nil, api.ErrLost},
		{1, nil, nil, api.ErrLost},
		{1, list(5, 5), list(0), api.OK},
		{6, equal(5, 1), nil, api.ErrLost},
		{6, equal(12, 1), list(0, 1, 2, 3, 4, 5), api.OK},
		{6, list(1, 1, 1, 1, 1, 1, 2, 4), list(6, 7), api.OK},
		{6, list(5, 4, 3, 3, 1), list(0, 4), api.OK},
		{4, list(2, 1, 3, 2, 4), list(4), api.OK},
		{4, list(2, 1, 3, 2), list(0, 3), api.OK},
	} {
		if l, e := lot.Some(c.stone, c.loads); !slices.Equal(l, c.want) || e != c.e {
			t.Errorf("Some of %d, %v: %v %d, want %v %d", c.stone, c.loads, l, e, c.want, c.e)
		}
	}
}

func TestRow(t *testing.T) {
	for _, c := range []struct {
		stone      int
		loads      []int
		begin, end int
		e          api.Errno
	}{
		{3, loadsA(), 0, 4, api.OK},
		{3, list(1, 1), 0, 0, api.ErrLost},
		{3, list(2, 1, 1), 0, 2, api.OK},
		{3, nil, 0, 0, api.ErrLost},
		{1, nil, 0, 0, api.ErrLost},
		{1, list(5, 5), 0, 1, api.OK},
		{6, equal(5, 1), 0, 0, api.ErrLost},
		{6, equal(12, 1), 0, 6, api.OK},
		// a row that begins earlier comes first, even if it is longer
		{3, list(1, 0, 2, 0), 0, 3, api.OK},
		{3, list(1, 0, 0), 1, 2, api.OK},
		{3, list(2, 2, 1), 1, 3, api.OK},
		{5, list(1, 2, 1, 5), 3, 4, api.OK},
		// loads that are not next to one another are no row
		{4, list(2, 1, 2), 0, 0, api.ErrLost},
	} {
		if begin, end, e := lot.Row(c.stone, c.loads); begin != c.begin || end != c.end || e != c.e {
			t.Errorf("Row of %d, %v: %d %d %d, want %d %d %d", c.stone, c.loads, begin, end, e, c.begin, c.end, c.e)
		}
	}
}

// P7.6

func TestLeaves(t *testing.T) {
	for _, c := range []struct {
		stone int
		loads []int
		many  int
		want  []int
		e     api.Errno
	}{
		{3, loadsA(), 1, list(1, 2), api.OK},
		{3, loadsA(), 2, list(0, 1, 2), api.OK},
		{3, loadsA(), 3, list(1, 2), api.OK},
		{3, loadsA(), 4, list(0), api.OK},
		{3, loadsA(), 5, nil, api.ErrNone},
		{3, loadsA(), 0, nil, api.ErrNone},
		{3, loadsA(), -1, nil, api.ErrNone},
		{3, loadsA(), math.MaxInt, nil, api.ErrNone},
		{3, loadsA(), math.MinInt, nil, api.ErrNone},
		{3, nil, 0, nil, api.ErrNone},
		{3, nil, 1, nil, api.ErrNone},
		{1, list(5, 7), 1, list(0), api.OK},
		{6, list(5, 3, 11, 1), 1, list(1, 3, 5), api.OK},
		{6, equal(12, 999), 12, list(0), api.OK},
		{6, equal(12, 1000), 12, list(0), api.OK},
		{6, equal(12, 1000), 11, list(2), api.OK},
	} {
		if l, e := lot.Leaves(c.stone, c.loads, c.many); !slices.Equal(l, c.want) || e != c.e {
			t.Errorf("Leaves of %d, %v, %d: %v %d, want %v %d", c.stone, c.loads, c.many, l, e, c.want, c.e)
		}
	}
}

func TestSums(t *testing.T) {
	for _, c := range []struct {
		stone int
		a, b  []int
		want  []int
		e     api.Errno
	}{
		{5, list(0, 1), list(0, 2), list(0, 1, 2, 3), api.OK},
		{5, nil, list(1), nil, api.OK},
		{5, list(1), nil, nil, api.OK},
		{5, nil, nil, nil, api.OK},
		{5, list(4), list(4), list(3), api.OK},
		{5, list(4, 4, 9), list(1), list(0), api.OK},
		{6, list(0, 3), list(0, 3), list(0, 3), api.OK},
		{6, list(1000, 5), list(1000, 999), list(1, 2, 3), api.OK},
		{1, list(5, 6), list(7), list(0), api.OK},
		{5, list(0, 1), list(-1), nil, api.ErrRange},
		{5, list(0, 1), equal(13, 1), nil, api.ErrMany},
		{5, nil, list(1001), nil, api.ErrRange},
		// the error of a comes before that of b
		{5, list(-1), equal(13, 1), nil, api.ErrRange},
		{5, equal(13, 1), list(-1), nil, api.ErrMany},
		{0, equal(13, 1), equal(13, 1), nil, api.ErrRange},
	} {
		if l, e := lot.Sums(c.stone, c.a, c.b); !slices.Equal(l, c.want) || e != c.e {
			t.Errorf("Sums of %d, %v, %v: %v %d, want %v %d", c.stone, c.a, c.b, l, e, c.want, c.e)
		}
	}
}

// P1: each function ends, does not panic, and returns the same for the same arguments.
func TestAllArguments(t *testing.T) {
	some := lists(nil, list(0), list(1, 0), list(0, 2, 4), loadsA(), loadsB(), equal(6, 1), equal(12, 1000), equal(13, 0), list(-1, 1001), list(math.MaxInt, math.MinInt), list(math.MinInt), make([]int, 1000), equal(1000, math.MaxInt))
	numbers := list(-1, 0, 1, 2, 12, 13, math.MaxInt, math.MinInt)
	for _, stone := range list(-1, 0, 1, 2, 3, 6, 7, math.MaxInt, math.MinInt) {
		for i, loads := range some {
			for k, these := range some {
				// each number comes with some of the lists
				many := numbers[(i+k)%len(numbers)]
				a := all(stone, loads, these, these, many)
				b := all(stone, loads, these, these, many)
				for name := range a {
					if !a[name].same(b[name]) || a[name].e != api.OK && !a[name].isZero() {
						t.Errorf("%s of %d, %v, %v, %d: %v, then %v", name, stone, loads, these, many, a[name], b[name])
					}
				}
			}
		}
	}
}

// R4: what a caller does with a result changes nothing else.
func TestMemory(t *testing.T) {
	loads, these, others := list(0, 1, 0, 0, 1, 1), list(0, 2, 3), list(0, 2)
	for name, f := range map[string]func() [][]int{
		"Lot":     func() [][]int { return lists(must(lot.Lot(3, loads))) },
		"Most":    func() [][]int { return must(lot.Most(3, loads)) },
		"Without": func() [][]int { return lists(must(lot.Without(6))) },
		"Some":    func() [][]int { return lists(must(lot.Some(3, loads))) },
		"Leaves":  func() [][]int { return lists(must(lot.Leaves(3, loads, 2))) },
		"Sums":    func() [][]int { return lists(must(lot.Sums(3, loads, others))) },
		"the others": func() [][]int {
			a, b, e := lot.Two(4, loads)
			begin, end, f := lot.Row(3, loads)
			return lists(list(must(lot.Lots(3, loads)), int(lot.Proves(3, loads, these)), a, b, int(e), begin, end, int(f)))
		},
	} {
		before, want := f(), f()
		for i, l := range before {
			for k := range l[:cap(l)] {
				l[:cap(l)][k] = -1
			}
			if !sameLists(before[i+1:], want[i+1:]) {
				t.Errorf("%s: %v after list %d was changed, want %v", name, before, i, want)
			}
		}
		if got := f(); !sameLists(got, want) {
			t.Errorf("%s: %v after its result was changed, want %v", name, got, want)
		}
	}
	if !slices.Equal(loads, list(0, 1, 0, 0, 1, 1)) || !slices.Equal(these, list(0, 2, 3)) || !slices.Equal(others, list(0, 2)) {
		t.Errorf("an argument was changed: %v %v %v", loads, these, others)
	}
}

// What lies behind an argument in its memory is not written to.
func TestMemoryBehindArguments(t *testing.T) {
	memory := list(1, 1, 2, 2, 0, 0, 2, 4, 5, 6, 9, 9)
	all(3, memory[:5], memory[5:8], memory[8:10], 2)
	if !slices.Equal(memory, list(1, 1, 2, 2, 0, 0, 2, 4, 5, 6, 9, 9)) {
		t.Errorf("changed: %v", memory)
	}
}
