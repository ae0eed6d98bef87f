package sieve_test

import (
	"math"
	"slices"
	"testing"

	"breeze/api"
	"breeze/sieve"
)

func list(l ...int) []int { return l }

// must is a result that may not be refused.
func must[T any](result T, e api.Errno) T {
	if e != api.OK {
		panic(e)
	}
	return result
}

// four are the loads L of the chapter's examples.
func four() []int { return list(4, 1, 1, 4) }

// equal are so many equal loads.
func equal(kinds, load int) []int { return slices.Repeat(list(load), kinds) }

// P5.1

var checks = []struct {
	name  string
	loads []int
	want  api.Errno
}{
	{"L", four(), api.OK},
	{"one load", list(1), api.OK},
	{"the greatest load", list(100), api.OK},
	{"eight loads", list(1, 2, 3, 4, 5, 6, 7, 8), api.OK},
	{"eight of the greatest loads", equal(8, 100), api.OK},
	{"nil", nil, api.ErrEmpty},
	{"no loads", list(), api.ErrEmpty},
	{"nine loads", equal(9, 1), api.ErrMany},
	{"nine wrong loads", equal(9, 0), api.ErrMany},
	{"a thousand loads", equal(1000, 1), api.ErrMany},
	{"0", list(0), api.ErrRange},
	{"-1", list(-1), api.ErrRange},
	{"1, 101", list(1, 101), api.ErrRange},
	{"101, 1", list(101, 1), api.ErrRange},
	{"the last of eight", list(1, 2, 3, 4, 5, 6, 7, 0), api.ErrRange},
	{"the greatest number", list(1, math.MaxInt), api.ErrRange},
	{"the least number", list(math.MinInt), api.ErrRange},
}

func TestCheck(t *testing.T) {
	for _, c := range checks {
		if e := sieve.Check(c.loads); e != c.want {
			t.Errorf("%s: %d, want %d", c.name, e, c.want)
		}
	}
}

type result struct {
	numbers []int
	e       api.Errno
}

func (r result) same(other result) bool {
	return slices.Equal(r.numbers, other.numbers) && r.e == other.e
}

func several(l []int, e api.Errno) result      { return result{l, e} }
func number(n int, e api.Errno) result         { return several(list(n), e) }
func pair(first, last int, e api.Errno) result { return several(list(first, last), e) }
func nothing(e api.Errno) result               { return several(nil, e) }

// isZero tells whether there is nothing but an error.
func (r result) isZero() bool {
	return !slices.ContainsFunc(r.numbers, func(n int) bool { return n != 0 })
}

// ofLoads returns what all functions with loads say.
func ofLoads(loads, tree []int) map[string]result {
	return map[string]result{
		"Check":     nothing(sieve.Check(loads)),
		"Best":      several(sieve.Best(loads)),
		"Least":     number(sieve.Least(loads)),
		"Count":     number(sieve.Count(loads)),
		"Tops":      pair(sieve.Tops(loads)),
		"Any":       number(sieve.Any(loads)),
		"Questions": number(sieve.Questions(loads, tree)),
	}
}

// ofKinds returns what all other functions say, of a list and of a number.
func ofKinds(kinds int, l []int, n int) map[string]result {
	return map[string]result{
		"Trees":  number(sieve.Trees(kinds)),
		"Tree":   several(sieve.Tree(kinds, n)),
		"Valid":  nothing(sieve.Valid(kinds, l)),
		"Depths": several(sieve.Depths(kinds, l)),
		"Asked":  several(sieve.Asked(kinds, l, n)),
		"Made":   several(sieve.Made(l)),
	}
}

// All functions with loads return Check's error before any of their own.
func TestCheckComesFirst(t *testing.T) {
	for _, c := range checks {
		if c.want == api.OK {
			continue
		}
		for _, tree := range [][]int{nil, list(0), list(9), make([]int, 8)} {
			for name, r := range ofLoads(c.loads, tree) {
				if !r.isZero() || r.e != c.want {
					t.Errorf("%s of %s: %v, want %d", name, c.name, r, c.want)
				}
			}
		}
	}
}

// P5.2 and P5.3

func TestBest(t *testing.T) {
	for _, c := range []struct {
		loads        []int
		best         []int
		least, count int
		first, last  int
		any          int
	}{
		{list(1, 2, 3), list(1, 0), 9, 1, 1, 1, 9},
		{list(1, 1, 1), list(0, 1), 5, 2, 0, 1, 5},
		{four(), list(0, 2, 1), 18, 2, 0, 2, 18},
		{list(1, 9, 1), list(0, 1), 21, 2, 0, 1, 13},
		{list(7, 7), list(0), 14, 1, 0, 0, 14},
		{list(1, 100), list(0), 101, 1, 0, 0, 101},
		{list(3, 2, 1), list(0, 1), 9, 1, 0, 0, 9},
		{list(1, 1, 2), list(1, 0), 6, 1, 1, 1, 6},
		{equal(4, 1), list(1, 0, 2), 8, 1, 1, 1, 8},
		{list(1, 1, 2, 3), list(2, 1, 0), 13, 1, 2, 2, 13},
		{list(1, 1, 1, 3), list(2, 0, 1), 11, 2, 2, 2, 11},
		{equal(5, 1), list(1, 0, 2, 3), 12, 4, 1, 2, 12},
		{equal(8, 100), list(3, 1, 0, 2, 5, 4, 6), 2400, 1, 3, 3, 2400},
		{list(1, 2, 4, 8, 16, 32, 64, 100), list(6, 5, 4, 3, 2, 1, 0), 473, 1, 6, 6, 473},
		{list(5, 1, 5, 1, 5, 1, 5, 1), list(3, 1, 0, 2, 5, 4, 6), 72, 1, 3, 3, 65},
	} {
		if l, e := sieve.Best(c.loads); !slices.Equal(l, c.best) || e != api.OK {
			t.Errorf("Best of %v: %v %d, want %v", c.loads, l, e, c.best)
		}
		if n, e := sieve.Least(c.loads); n != c.least || e != api.OK {
			t.Errorf("Least of %v: %d %d, want %d", c.loads, n, e, c.least)
		}
		if n, e := sieve.Count(c.loads); n != c.count || e != api.OK {
			t.Errorf("Count of %v: %d %d, want %d", c.loads, n, e, c.count)
		}
		if first, last, e := sieve.Tops(c.loads); first != c.first || last != c.last || e != api.OK {
			t.Errorf("Tops of %v: %d %d %d, want %d %d", c.loads, first, last, e, c.first, c.last)
		}
		if n, e := sieve.Any(c.loads); n != c.any || e != api.OK {
			t.Errorf("Any of %v: %d %d, want %d", c.loads, n, e, c.any)
		}
	}
}

// One kind needs no sieve, so its one tree has no top.
func TestOneKind(t *testing.T) {
	want := map[string]result{
		"Check":     nothing(api.OK),
		"Best":      several(nil, api.OK),
		"Least":     number(0, api.OK),
		"Count":     number(1, api.OK),
		"Tops":      pair(0, 0, api.ErrNone),
		"Any":       number(0, api.OK),
		"Questions": number(0, api.OK),
	}
	for _, load := range list(1, 7, 100) {
		for name, r := range ofLoads(list(load), nil) {
			if !r.same(want[name]) {
				t.Errorf("%s of %d: %v, want %v", name, load, r, want[name])
			}
		}
	}
}

// P5.4

func TestTree(t *testing.T) {
	for _, c := range []struct {
		kinds, number int
		want          []int
		e             api.Errno
	}{
		{1, 0, nil, api.OK},
		{1, 1, nil, api.ErrNone},
		{1, -1, nil, api.ErrNone},
		{2, 0, list(0), api.OK},
		{2, 1, nil, api.ErrNone},
		{3, 0, list(0, 1), api.OK},
		{3, 1, list(1, 0), api.OK},
		{3, 2, nil, api.ErrNone},
		{4, 0, list(0, 1, 2), api.OK},
		{4, 1, list(0, 2, 1), api.OK},
		{4, 2, list(1, 0, 2), api.OK},
		{4, 3, list(2, 0, 1), api.OK},
		{4, 4, list(2, 1, 0), api.OK},
		{4, 5, nil, api.ErrNone},
		{4, -1, nil, api.ErrNone},
		{5, 5, list(1, 0, 2, 3), api.OK},
		{5, 6, list(1, 0, 3, 2), api.OK},
		{5, 7, list(2, 0, 1, 3), api.OK},
		{8, 0, list(0, 1, 2, 3, 4, 5, 6), api.OK},
		{8, 428, list(6, 5, 4, 3, 2, 1, 0), api.OK},
		{8, 429, nil, api.ErrNone},
		{8, math.MaxInt, nil, api.ErrNone},
		{8, math.MinInt, nil, api.ErrNone},
		{0, 0, nil, api.ErrRange},
		{9, 0, nil, api.ErrRange},
		{-1, 0, nil, api.ErrRange},
		{9, -1, nil, api.ErrRange},
		{math.MaxInt, 0, nil, api.ErrRange},
		{math.MinInt, math.MinInt, nil, api.ErrRange},
	} {
		if l, e := sieve.Tree(c.kinds, c.number); !slices.Equal(l, c.want) || e != c.e {
			t.Errorf("Tree of %d: %d: %v %d, want %v %d", c.kinds, c.number, l, e, c.want, c.e)
		}
	}
}

// P5.4 and P5.12

func TestTrees(t *testing.T) {
	for i, want := range list(1, 1, 2, 5, 14, 42, 132, 429) {
		if n, e := sieve.Trees(i + 1); n != want || e != api.OK {
			t.Errorf("Trees of %d: %d %d, want %d", i+1, n, e, want)
		}
	}
	for _, kinds := range list(0, -1, 9, math.MaxInt, math.MinInt) {
		if n, e := sieve.Trees(kinds); n != 0 || e != api.ErrRange {
			t.Errorf("Trees of %d: %d %d", kinds, n, e)
		}
	}
}

// P5.5

var valids = []struct {
	kinds int
	tree  []int
	want  api.Errno
}{
	{1, nil, api.OK},
	{1, list(), api.OK},
	{2, list(0), api.OK},
	{3, list(0, 1), api.OK},
	{3, list(1, 0), api.OK},
	{4, list(0, 2, 1), api.OK},
	{4, list(1, 0, 2), api.OK},
	{8, list(3, 1, 0, 2, 5, 4, 6), api.OK},
	{0, nil, api.ErrRange},
	{-1, nil, api.ErrRange},
	{9, list(0, 1, 2, 3, 4, 5, 6, 7), api.ErrRange},
	{9, list(7, 7), api.ErrRange},
	{math.MaxInt, nil, api.ErrRange},
	{math.MinInt, list(0), api.ErrRange},
	{1, list(0), api.ErrShape},
	{2, nil, api.ErrShape},
	{2, list(1), api.ErrShape},
	{2, list(-1), api.ErrShape},
	{2, list(0, 0), api.ErrShape},
	{3, list(0, 2), api.ErrShape},
	{3, list(2, 0), api.ErrShape},
	{3, list(0), api.ErrShape},
	{3, list(1), api.ErrShape},
	{3, list(0, 0), api.ErrShape},
	{3, list(1, 1), api.ErrShape},
	{3, list(0, -1), api.ErrShape},
	{3, list(0, 1, 2), api.ErrShape},
	{3, list(1, 0, 1), api.ErrShape},
	{3, list(math.MaxInt, 0), api.ErrShape},
	{3, list(1, math.MinInt), api.ErrShape},
	// what stays may not come before what falls through
	{4, list(1, 2, 0), api.ErrShape},
	{4, list(0, 1, 3), api.ErrShape},
	{5, list(2, 0, 3, 1), api.ErrShape},
	{8, make([]int, 1000), api.ErrShape},
}

func TestValid(t *testing.T) {
	for _, c := range valids {
		if e := sieve.Valid(c.kinds, c.tree); e != c.want {
			t.Errorf("Valid of %d: %v: %d, want %d", c.kinds, c.tree, e, c.want)
		}
		if c.want == api.OK {
			continue
		}
		if l, e := sieve.Depths(c.kinds, c.tree); len(l) > 0 || e != c.want {
			t.Errorf("Depths of %d: %v: %v %d, want %d", c.kinds, c.tree, l, e, c.want)
		}
		for _, kind := range list(0, 2, -1, 9) {
			if l, e := sieve.Asked(c.kinds, c.tree, kind); len(l) > 0 || e != c.want {
				t.Errorf("Asked of %d, %v: %d: %v %d, want %d", c.kinds, c.tree, kind, l, e, c.want)
			}
		}
	}
}

func TestDepths(t *testing.T) {
	for _, c := range []struct {
		tree, want []int
	}{
		{nil, list(0)},
		{list(0), list(1, 1)},
		{list(0, 1), list(1, 2, 2)},
		{list(1, 0), list(2, 2, 1)},
		{list(0, 2, 1), list(1, 3, 3, 2)},
		{list(1, 0, 2), list(2, 2, 2, 2)},
		{list(3, 1, 0, 2, 5, 4, 6), equal(8, 3)},
		{list(0, 1, 2, 3, 4, 5, 6), list(1, 2, 3, 4, 5, 6, 7, 7)},
		{list(2, 0, 1, 4, 3, 6, 5), list(2, 3, 3, 3, 3, 4, 4, 3)},
	} {
		if l, e := sieve.Depths(len(c.want), c.tree); !slices.Equal(l, c.want) || e != api.OK {
			t.Errorf("Depths of %v: %v %d, want %v", c.tree, l, e, c.want)
		}
	}
}

func TestAsked(t *testing.T) {
	for _, c := range []struct {
		kinds int
		tree  []int
		kind  int
		want  []int
		e     api.Errno
	}{
		{4, list(0, 2, 1), 0, list(0), api.OK},
		{4, list(0, 2, 1), 1, list(0, 2, 1), api.OK},
		{4, list(0, 2, 1), 2, list(0, 2, 1), api.OK},
		{4, list(0, 2, 1), 3, list(0, 2), api.OK},
		{4, list(0, 2, 1), 4, nil, api.ErrNone},
		{4, list(0, 2, 1), -1, nil, api.ErrNone},
		{4, list(0, 2, 1), math.MaxInt, nil, api.ErrNone},
		{4, list(0, 2, 1), math.MinInt, nil, api.ErrNone},
		{1, nil, 0, nil, api.OK},
		{1, nil, 1, nil, api.ErrNone},
		{5, list(2, 0, 1, 3), 1, list(2, 0, 1), api.OK},
		{5, list(2, 0, 1, 3), 3, list(2, 3), api.OK},
		{8, list(3, 1, 0, 2, 5, 4, 6), 7, list(3, 5, 6), api.OK},
	} {
		if l, e := sieve.Asked(c.kinds, c.tree, c.kind); !slices.Equal(l, c.want) || e != c.e {
			t.Errorf("Asked of %d, %v: %d: %v %d, want %v %d", c.kinds, c.tree, c.kind, l, e, c.want, c.e)
		}
	}
}

// P5.6

func TestQuestions(t *testing.T) {
	for _, c := range []struct {
		loads, tree []int
		want        int
		e           api.Errno
	}{
		{list(1, 2, 3), list(0, 1), 11, api.OK},
		{list(1, 2, 3), list(1, 0), 9, api.OK},
		{list(1, 2, 3), list(0), 0, api.ErrShape},
		{list(1, 2, 3), nil, 0, api.ErrShape},
		{list(1, 2, 3), list(0, 2), 0, api.ErrShape},
		{list(1, 2, 3), list(0, 1, 2), 0, api.ErrShape},
		{list(5), nil, 0, api.OK},
		{list(5), list(0), 0, api.ErrShape},
		{four(), list(0, 2, 1), 18, api.OK},
		{four(), list(1, 0, 2), 20, api.OK},
		{equal(8, 100), list(6, 5, 4, 3, 2, 1, 0), 3500, api.OK},
		{list(1, 101), list(7), 0, api.ErrRange},
		{nil, list(7), 0, api.ErrEmpty},
		{equal(9, 1), list(7), 0, api.ErrMany},
	} {
		if n, e := sieve.Questions(c.loads, c.tree); n != c.want || e != c.e {
			t.Errorf("Questions of %v with %v: %d %d, want %d %d", c.loads, c.tree, n, e, c.want, c.e)
		}
	}
}

// P5.7

func TestMade(t *testing.T) {
	for _, c := range []struct {
		depths, want []int
		e            api.Errno
	}{
		{list(1, 3, 3, 2), list(0, 2, 1), api.OK},
		{list(0), nil, api.OK},
		{list(1, 1), list(0), api.OK},
		{list(2, 2, 1), list(1, 0), api.OK},
		{equal(4, 2), list(1, 0, 2), api.OK},
		{equal(8, 3), list(3, 1, 0, 2, 5, 4, 6), api.OK},
		{list(1, 2, 3, 4, 5, 6, 7, 7), list(0, 1, 2, 3, 4, 5, 6), api.OK},
		{nil, nil, api.ErrEmpty},
		{list(), nil, api.ErrEmpty},
		{equal(9, 1), nil, api.ErrMany},
		{equal(9, 9), nil, api.ErrMany},
		{list(0, 2), nil, api.ErrRange},
		{list(1), nil, api.ErrRange},
		{list(-1), nil, api.ErrRange},
		{list(1, -1), nil, api.ErrRange},
		{list(1, 2, 3), nil, api.ErrRange},
		{list(1, 1, math.MaxInt), nil, api.ErrRange},
		{list(math.MinInt, 1), nil, api.ErrRange},
		{equal(8, 8), nil, api.ErrRange},
		{list(2, 1, 2), nil, api.ErrLost},
		{list(1, 1, 1), nil, api.ErrLost},
		{list(0, 0), nil, api.ErrLost},
		{list(0, 1), nil, api.ErrLost},
		{list(1, 0), nil, api.ErrLost},
		{list(1, 2, 1), nil, api.ErrLost},
		{equal(3, 2), nil, api.ErrLost},
		{equal(4, 1), nil, api.ErrLost},
		{equal(4, 3), nil, api.ErrLost},
		{list(2, 1, 1, 2), nil, api.ErrLost},
		{list(2, 3, 3, 1, 0), nil, api.ErrLost},
		{list(1, 3, 2, 3), nil, api.ErrLost},
		{equal(8, 7), nil, api.ErrLost},
		{equal(8, 0), nil, api.ErrLost},
		// the numbers of a tree with one more kind, or one less
		{list(1, 2, 3), nil, api.ErrRange},
		{list(1, 2, 3, 3, 3), nil, api.ErrLost},
		{list(1, 2, 2, 2), nil, api.ErrLost},
	} {
		if l, e := sieve.Made(c.depths); !slices.Equal(l, c.want) || e != c.e {
			t.Errorf("Made of %v: %v %d, want %v %d", c.depths, l, e, c.want, c.e)
		}
	}
}

// P1: each function ends, does not panic, and returns the same for the same arguments.
func TestAllArguments(t *testing.T) {
	numbers := list(-1, 0, 1, 2, 4, 7, 8, 9, math.MaxInt, math.MinInt)
	some := [][]int{nil, list(0), list(1), list(0, 1), list(1, 0), list(1, 1), list(2, 1, 2), four(), list(0, 2, 1), list(1, 3, 3, 2), equal(7, 1), equal(8, 3), equal(9, 1), list(-1, 101), list(math.MaxInt, math.MinInt), list(math.MinInt), make([]int, 1000), equal(1000, math.MaxInt)}
	check := func(a, b map[string]result, arguments ...any) {
		for name := range a {
			if !a[name].same(b[name]) || a[name].e != api.OK && !a[name].isZero() {
				t.Errorf("%s of %v: %v, then %v", name, arguments, a[name], b[name])
			}
		}
	}
	for _, l := range some {
		for _, tree := range some {
			check(ofLoads(l, tree), ofLoads(l, tree), l, tree)
		}
		for _, kinds := range numbers {
			for _, n := range numbers {
				check(ofKinds(kinds, l, n), ofKinds(kinds, l, n), kinds, l, n)
			}
		}
	}
}

// R4: arguments are not changed, and what a caller does with a result changes nothing else.
func TestMemory(t *testing.T) {
	loads, tree, depths := list(5, 1, 4, 2, 100), list(2, 0, 1, 3), list(1, 3, 3, 3, 3)
	for name, f := range map[string]func() []int{
		"Best":   func() []int { return must(sieve.Best(loads)) },
		"Tree":   func() []int { return must(sieve.Tree(5, 7)) },
		"Depths": func() []int { return must(sieve.Depths(5, tree)) },
		"Asked":  func() []int { return must(sieve.Asked(5, tree, 1)) },
		"Made":   func() []int { return must(sieve.Made(depths)) },
		"the others": func() []int {
			first, last, e := sieve.Tops(loads)
			return list(must(sieve.Least(loads)), must(sieve.Count(loads)), first, last, int(e), must(sieve.Any(loads)), must(sieve.Trees(5)), int(sieve.Valid(5, tree)), must(sieve.Questions(loads, tree)))
		},
	} {
		before := f()
		want := slices.Clone(before)
		for i := range before {
			before[i] = -1
		}
		if got := f(); !slices.Equal(got, want) {
			t.Errorf("%s: %v after its result was changed, want %v", name, got, want)
		}
	}
	if !slices.Equal(loads, list(5, 1, 4, 2, 100)) || !slices.Equal(tree, list(2, 0, 1, 3)) || !slices.Equal(depths, list(1, 3, 3, 3, 3)) {
		t.Errorf("an argument was changed: %v %v %v", loads, tree, depths)
	}
}

// What lies behind an argument in its memory is not written to.
func TestMemoryBehindArguments(t *testing.T) {
	memory := list(4, 1, 1, 4, 0, 2, 1, 1, 3, 3, 2, 9, 9)
	loads, tree, depths := memory[:4], memory[4:7], memory[7:11]
	ofLoads(loads, tree)
	ofKinds(4, tree, 3)
	ofKinds(4, depths, 3)
	if !slices.Equal(memory, list(4, 1, 1, 4, 0, 2, 1, 1, 3, 3, 2, 9, 9)) {
		t.Errorf("changed: %v", memory)
	}
}
