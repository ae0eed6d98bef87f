package round_test

import (
	"math"
	"slices"
	"testing"

	"breeze/api"
	"breeze/round"
)

func list(l ...int) []int { return l }

func lists(l ...[]int) [][]int { return l }

// town makes a map of corners and the two corners of each street.
func town(corners int, ends ...int) round.Map {
	m := round.Map{Corners: corners}
	for i := 0; i+1 < len(ends); i += 2 {
		m.Streets = append(m.Streets, [2]int{ends[i], ends[i+1]})
	}
	return m
}

// The maps A, B, C and D of the chapter's examples.
func ring() round.Map { return town(4, 0, 1, 1, 2, 2, 3, 0, 3) }
func star() round.Map { return town(4, 0, 1, 0, 2, 0, 3) }
func flag() round.Map { return town(4, 0, 1, 1, 2, 0, 2, 2, 3) }
func full() round.Map { return town(4, 0, 1, 0, 2, 0, 3, 1, 2, 1, 3, 2, 3) }

// yard has one corner, and no street.
func yard() round.Map { return town(1) }

// pair has two streets between two corners, and one from there to a third corner.
func pair() round.Map { return town(3, 0, 1, 0, 1, 1, 2) }

func sameLists(a, b [][]int) bool { return slices.EqualFunc(a, b, slices.Equal[[]int]) }

// P2.1

var checks = []struct {
	name string
	m    round.Map
	want api.Errno
}{
	{"A", ring(), api.OK},
	{"B", star(), api.OK},
	{"C", flag(), api.OK},
	{"D", full(), api.OK},
	{"one corner", yard(), api.OK},
	{"one street", town(2, 0, 1), api.OK},
	{"the same corners", pair(), api.OK},
	{"most corners and streets", town(6, 0, 1, 1, 2, 2, 3, 3, 4, 4, 5, 0, 5, 0, 5, 0, 5, 0, 5), api.OK},
	{"far corners first", town(6, 4, 5, 3, 4, 2, 3, 1, 2, 0, 1), api.OK},
	{"no corner", town(0), api.ErrRange},
	{"no corner, a street", town(0, 0, 1), api.ErrRange},
	{"-1 corners", town(-1), api.ErrRange},
	{"7 corners", town(7), api.ErrRange},
	{"7 corners, 10 streets", round.Map{Corners: 7, Streets: make([][2]int, 10)}, api.ErrRange},
	{"greatest int", town(math.MaxInt), api.ErrRange},
	{"least int", town(math.MinInt), api.ErrRange},
	{"10 streets", town(2, 0, 1, 0, 1, 0, 1, 0, 1, 0, 1, 0, 1, 0, 1, 0, 1, 0, 1, 0, 1), api.ErrMany},
	{"10 wrong streets", round.Map{Corners: 2, Streets: make([][2]int, 10)}, api.ErrMany},
	{"0 2 of 2", town(2, 0, 2), api.ErrNone},
	{"2 0 of 2", town(2, 2, 0), api.ErrNone},
	{"-1 0", town(2, -1, 0), api.ErrNone},
	{"5 5 of 2", town(2, 5, 5), api.ErrNone},
	{"a street of one corner", town(1, 0, 1), api.ErrNone},
	{"greatest number", town(2, 0, math.MaxInt), api.ErrNone},
	{"least number", town(2, math.MinInt, 1), api.ErrNone},
	{"1 0", town(2, 1, 0), api.ErrOrder},
	{"1 1", town(2, 0, 1, 1, 1), api.ErrOrder},
	{"0 0 of one corner", town(1, 0, 0), api.ErrOrder},
	{"order first", town(2, 1, 0, 0, 2), api.ErrOrder},
	{"none first", town(2, 0, 2, 1, 0), api.ErrNone},
	{"wrong street, not joined", town(3, 0, 1, 1, 0), api.ErrOrder},
	{"2 without streets", town(2), api.ErrShape},
	{"last corner alone", town(3, 0, 1, 0, 1), api.ErrShape},
	{"yard alone", town(3, 1, 2), api.ErrShape},
	{"two parts", town(4, 0, 1, 2, 3), api.ErrShape},
	{"two rings", town(6, 0, 1, 1, 2, 0, 2, 3, 4, 4, 5, 3, 5), api.ErrShape},
}

func TestCheck(t *testing.T) {
	for _, x := range checks {
		if e := round.Check(x.m); e != x.want {
			t.Errorf("%s: %d, want %d", x.name, e, x.want)
		}
	}
}

// All other functions return Check's error before any of their own, and nothing with it.
func TestCheckComesFirst(t *testing.T) {
	bad := list(-1, -2)
	for _, x := range checks {
		if x.want == api.OK {
			continue
		}
		for name, f := range map[string]func() ([]int, api.Errno){
			"Odd":    func() ([]int, api.Errno) { return round.Odd(x.m) },
			"Fewest": func() ([]int, api.Errno) { return round.Fewest(x.m) },
			"Round":  func() ([]int, api.Errno) { return round.Round(x.m, bad) },
			"Goes":   func() ([]int, api.Errno) { return round.Goes(x.m, bad) },
			"Cut":    func() ([]int, api.Errno) { return round.Cut(x.m, bad) },
		} {
			if l, e := f(); len(l) != 0 || e != x.want {
				t.Errorf("%s of %s: %v %d, want %d", name, x.name, l, e, x.want)
			}
		}
		if e := round.Enough(x.m, bad); e != x.want {
			t.Errorf("Enough of %s: %d, want %d", x.name, e, x.want)
		}
		if n, e := round.Count(x.m); n != 0 || e != x.want {
			t.Errorf("Count of %s: %d %d, want %d", x.name, n, e, x.want)
		}
		if l, e := round.Cuts(x.m); len(l) != 0 || e != x.want {
			t.Errorf("Cuts of %s: %v %d, want %d", x.name, l, e, x.want)
		}
		if e := round.Proves(x.m, lists(bad)); e != x.want {
			t.Errorf("Proves of %s: %d, want %d", x.name, e, x.want)
		}
		if b, e := round.Even(x.m); b || e != x.want {
			t.Errorf("Even of %s: %v %d, want %d", x.name, b, e, x.want)
		}
	}
}

// P2.1, P2.3 and P2.6: what is found out of a map alone.

func TestMaps(t *testing.T) {
	for _, x := range []struct {
		name        string
		m           round.Map
		odd, fewest []int
		count       int
		cuts        [][]int
		even        bool
	}{
		{"A", ring(), nil, nil, 2, nil, true},
		{"B", star(), list(0, 1, 2, 3), list(0, 1, 2), 1, lists(list(0), list(1), list(2)), true},
		{"C", flag(), list(2, 3), list(3), 2, lists(list(0, 1, 3)), false},
		{"D", full(), list(0, 1, 2, 3), list(0, 5), 8, lists(list(0, 1, 2)), false},
		{"one corner", yard(), nil, nil, 1, nil, true},
		{"one street", town(2, 0, 1), list(0, 1), list(0), 1, lists(list(0)), true},
		{"three between two", town(2, 0, 1, 0, 1, 0, 1), list(0, 1), list(0), 4, lists(list(0, 1, 2)), true},
		{"pair", pair(), list(1, 2), list(2), 2, lists(list(0, 1, 2)), true},
		{"row", town(4, 0, 1, 1, 2, 2, 3), list(0, 3), list(0, 1, 2), 1, lists(list(0), list(1), list(2)), true},
		{"three ways of two streets", town(5, 0, 1, 0, 3, 0, 4, 2, 3, 1, 2, 2, 4), list(0, 2), list(0, 4), 4, lists(list(0, 1, 2), list(3, 4, 5)), true},
		{"ring with a street across", town(4, 0, 1, 0, 3, 1, 2, 2, 3, 0, 2), list(0, 2), list(4), 4, lists(list(0, 1, 4)), false},
		{"ring, two of its streets twice", town(4, 2, 3, 1, 2, 0, 3, 0, 1, 0, 1, 2, 3), list(0, 1, 2, 3), list(0, 3), 8, lists(list(0, 1, 5), list(2, 3, 4)), true},
		{"ring of five", town(5, 0, 1, 1, 2, 2, 3, 3, 4, 0, 4), nil, nil, 2, nil, false},
	} {
		if l, e := round.Odd(x.m); !slices.Equal(l, x.odd) || e != api.OK {
			t.Errorf("Odd of %s: %v %d, want %v", x.name, l, e, x.odd)
		}
		if l, e := round.Fewest(x.m); !slices.Equal(l, x.fewest) || e != api.OK {
			t.Errorf("Fewest of %s: %v %d, want %v", x.name, l, e, x.fewest)
		}
		if n, e := round.Count(x.m); n != x.count || e != api.OK {
			t.Errorf("Count of %s: %d %d, want %d", x.name, n, e, x.count)
		}
		if l, e := round.Cuts(x.m); !sameLists(l, x.cuts) || e != api.OK {
			t.Errorf("Cuts of %s: %v %d, want %v", x.name, l, e, x.cuts)
		}
		if b, e := round.Even(x.m); b != x.even || e != api.OK {
			t.Errorf("Even of %s: %v %d, want %v", x.name, b, e, x.even)
		}
	}
}

// P2.2

func TestEnoughAndRound(t *testing.T) {
	for _, x := range []struct {
		m           round.Map
		twice, want []int
		e           api.Errno
	}{
		{ring(), nil, list(0, 1, 2, 3), api.OK},
		{ring(), []int{}, list(0, 1, 2, 3), api.OK},
		{ring(), list(0, 1, 2, 3), list(0, 0, 3, 2, 1, 1, 2, 3), api.OK},
		{ring(), list(0), nil, api.ErrProof},
		{star(), list(0, 1, 2), list(0, 0, 1, 1, 2, 2), api.OK},
		{star(), list(0, 1), nil, api.ErrProof},
		{star(), nil, nil, api.ErrProof},
		{flag(), list(3), list(0, 1, 3, 3, 2), api.OK},
		{flag(), list(0), nil, api.ErrProof},
		{flag(), list(0, 1, 2, 3), list(0, 0, 2, 1, 1, 3, 3, 2), api.OK},
		{flag(), list(3, 3), nil, api.ErrOrder},
		{flag(), list(3, 0), nil, api.ErrOrder},
		{flag(), list(0, 0), nil, api.ErrOrder},
		{flag(), list(4), nil, api.ErrNone},
		{flag(), list(-1), nil, api.ErrNone},
		{flag(), list(3, 3, 4), nil, api.ErrOrder},
		{flag(), list(3, 4, 3), nil, api.ErrNone},
		{flag(), list(3, -1), nil, api.ErrNone},
		{flag(), list(math.MaxInt), nil, api.ErrNone},
		{flag(), list(math.MinInt), nil, api.ErrNone},
		{flag(), list(0, 1, 2, 3, 4), nil, api.ErrNone},
		{yard(), nil, nil, api.OK},
		{yard(), list(0), nil, api.ErrNone},
		{pair(), list(2), list(0, 2, 2, 1), api.OK},
		// back through the street through which one came, before another one
		{town(2, 0, 1, 0, 1, 0, 1), list(0), list(0, 0, 1, 2), api.OK},
		{town(2, 0, 1, 0, 1, 0, 1), list(2), list(0, 1, 2, 2), api.OK},
		// street 0 has to wait until the others on its side are done
		{town(3, 0, 1, 0, 1, 1, 2, 1, 2), nil, list(0, 2, 3, 1), api.OK},
		{town(4, 1, 2, 0, 1, 0, 3, 2, 3), nil, list(1, 0, 3, 2), api.OK},
	} {
		if e := round.Enough(x.m, x.twice); e != x.e {
			t.Errorf("Enough of %v: %v: %d, want %d", x.m, x.twice, e, x.e)
		}
		if l, e := round.Round(x.m, x.twice); !slices.Equal(l, x.want) || e != x.e {
			t.Errorf("Round of %v: %v: %v %d, want %v %d", x.m, x.twice, l, e, x.want, x.e)
		}
	}
}

// P2.4

func TestGoes(t *testing.T) {
	for _, x := range []struct {
		m           round.Map
		round, want []int
		e           api.Errno
	}{
		{ring(), list(0, 1, 2, 3), list(1, 1, 1, 1), api.OK},
		{ring(), list(3, 2, 1, 0), list(1, 1, 1, 1), api.OK},
		{ring(), list(3, 3, 0, 1, 1, 1, 2, 3), list(1, 3, 1, 3), api.OK},
		{ring(), list(3, 3, 3, 2, 1, 0), list(1, 1, 1, 3), api.OK},
		{ring(), list(0, 1, 1, 1, 2, 3), list(1, 3, 1, 1), api.OK},
		{ring(), list(0, 2), nil, api.ErrLost},
		{ring(), list(1), nil, api.ErrLost},
		{ring(), list(0, 1, 2, 0), nil, api.ErrLost},
		{ring(), list(0, 1), nil, api.ErrOpen},
		{ring(), list(0, 1, 2, 3, 0), nil, api.ErrOpen},
		{ring(), list(0, 0), nil, api.ErrEmpty},
		{ring(), list(0, 1, 2, 2, 1, 0), nil, api.ErrEmpty},
		{ring(), nil, nil, api.ErrEmpty},
		{ring(), list(4), nil, api.ErrNone},
		{ring(), list(-1), nil, api.ErrNone},
		{ring(), list(0, math.MaxInt), nil, api.ErrNone},
		{ring(), list(0, math.MinInt), nil, api.ErrNone},
		{ring(), list(0, 2, 4), nil, api.ErrLost},
		{ring(), list(0, 4, 2), nil, api.ErrNone},
		{star(), list(0, 0, 1, 1, 2, 2), list(2, 2, 2), api.OK},
		{star(), list(2, 2, 0, 0, 1, 1, 0, 0), list(4, 2, 2), api.OK},
		{star(), list(0, 1), nil, api.ErrLost},
		{pair(), list(0, 2, 2, 1), list(1, 1, 2), api.OK},
		{pair(), list(0, 2, 1), nil, api.ErrLost},
		{yard(), nil, nil, api.OK},
		{yard(), list(0), nil, api.ErrNone},
	} {
		if l, e := round.Goes(x.m, x.round); !slices.Equal(l, x.want) || e != x.e {
			t.Errorf("Goes of %v: %v: %v %d, want %v %d", x.m, x.round, l, e, x.want, x.e)
		}
	}
}

// A long round is counted to its end.
func TestLongRound(t *testing.T) {
	long := slices.Repeat(list(0, 0), 50000)
	if l, e := round.Goes(town(2, 0, 1), long); !slices.Equal(l, list(100000)) || e != api.OK {
		t.Errorf("%v %d", l, e)
	}
}

// P2.5

func TestCut(t *testing.T) {
	for _, x := range []struct {
		m          round.Map
		side, want []int
		e          api.Errno
	}{
		{ring(), list(0), list(0, 3), api.OK},
		{ring(), list(0, 1), list(1, 3), api.OK},
		{ring(), list(0, 2), list(0, 1, 2, 3), api.OK},
		{ring(), list(1, 2, 3), list(0, 3), api.OK},
		{pair(), list(1), list(0, 1, 2), api.OK},
		{pair(), list(0), list(0, 1), api.OK},
		{ring(), nil, nil, api.ErrShape},
		{ring(), list(0, 1, 2, 3), nil, api.ErrShape},
		{ring(), list(4), nil, api.ErrNone},
		{ring(), list(-1), nil, api.ErrNone},
		{ring(), list(1, 1), nil, api.ErrOrder},
		{ring(), list(1, 0), nil, api.ErrOrder},
		{ring(), list(1, 0, 4), nil, api.ErrOrder},
		{ring(), list(1, 4, 0), nil, api.ErrNone},
		{ring(), list(1, -1), nil, api.ErrNone},
		{ring(), list(0, 1, 2, 3, 3), nil, api.ErrOrder},
		{ring(), list(0, 1, 2, 3, 4), nil, api.ErrNone},
		{ring(), list(math.MaxInt), nil, api.ErrNone},
		{ring(), list(math.MinInt), nil, api.ErrNone},
		{yard(), nil, nil, api.ErrShape},
		{yard(), list(0), nil, api.ErrShape},
		{yard(), list(1), nil, api.ErrNone},
	} {
		if l, e := round.Cut(x.m, x.side); !slices.Equal(l, x.want) || e != x.e {
			t.Errorf("Cut of %v: %v: %v %d, want %v %d", x.m, x.side, l, e, x.want, x.e)
		}
		if x.e != api.OK {
			if e := round.Proves(x.m, lists(x.side)); e != x.e {
				t.Errorf("Proves of %v: %v: %d, want %d", x.m, x.side, e, x.e)
			}
		}
	}
}

func TestProves(t *testing.T) {
	for _, x := range []struct {
		m     round.Map
		sides [][]int
		want  api.Errno
	}{
		{star(), lists(list(1), list(2), list(3)), api.OK},
		{star(), lists(list(3), list(1), list(0, 1, 3)), api.OK},
		{star(), lists(list(0)), api.OK},
		{star(), nil, api.OK},
		{star(), lists(list(0), list(1)), api.ErrTwice},
		{star(), lists(list(1), list(2), list(0)), api.ErrTwice},
		{star(), lists(list(1), list(1)), api.ErrTwice},
		{star(), lists(list(1), list(2), list(1)), api.ErrTwice},
		{star(), lists(list(1), list(2), list(3), list(0, 1, 3)), api.ErrTwice},
		{star(), lists(list(1), list(0, 2, 3)), api.ErrTwice},
		{star(), lists(list(0, 1)), api.ErrProof},
		{star(), lists(list(1), list(0, 1)), api.ErrProof},
		{star(), lists(list(0, 1, 2, 3)), api.ErrShape},
		{star(), lists(nil), api.ErrShape},
		// the first side with an error decides
		{star(), lists(list(0), list(1), list(0, 1)), api.ErrTwice},
		{star(), lists(list(0), list(0, 1), list(1)), api.ErrProof},
		{star(), lists(list(1), list(2), list(4)), api.ErrNone},
		{star(), lists(list(1), list(2, 0), list(4)), api.ErrOrder},
		{star(), lists(list(0, 1), list(4)), api.ErrProof},
		// corner 1 is not odd, so it does not count
		{flag(), lists(list(1, 3)), api.OK},
		{flag(), lists(list(1)), api.ErrProof},
		{flag(), lists(list(0, 1)), api.ErrProof},
		{flag(), lists(list(3), list(2)), api.ErrTwice},
		{ring(), nil, api.OK},
		{ring(), lists(list(0)), api.ErrProof},
		{yard(), nil, api.OK},
		{yard(), lists(list(0)), api.ErrShape},
	} {
		if e := round.Proves(x.m, x.sides); e != x.want {
			t.Errorf("Proves of %v: %v: %d, want %d", x.m, x.sides, e, x.want)
		}
	}
}

// P1: each function ends, does not panic, and returns the same for the same arguments.
func TestAllArguments(t *testing.T) {
	some := [][]int{nil, {}, {0}, {-1}, {1, 0}, {0, 1}, {0, 0}, {math.MaxInt}, {math.MinInt, math.MaxInt}, {0, 1, 2, 3, 4, 5, 6, 7, 8, 9}, make([]int, 1000)}
	maps := []round.Map{{}, {Corners: 1, Streets: [][2]int{}}, {Streets: make([][2]int, 1000)}}
	for _, x := range checks {
		maps = append(maps, x.m)
	}
	for _, m := range maps {
		for name, f := range map[string]func([]int) ([]int, api.Errno){
			"Odd":    func([]int) ([]int, api.Errno) { return round.Odd(m) },
			"Fewest": func([]int) ([]int, api.Errno) { return round.Fewest(m) },
			"Round":  func(l []int) ([]int, api.Errno) { return round.Round(m, l) },
			"Goes":   func(l []int) ([]int, api.Errno) { return round.Goes(m, l) },
			"Cut":    func(l []int) ([]int, api.Errno) { return round.Cut(m, l) },
		} {
			for _, l := range some {
				a, e := f(l)
				b, g := f(l)
				if !slices.Equal(a, b) || e != g || e != api.OK && len(a) > 0 {
					t.Errorf("%s of %v, %v: %v %d, then %v %d", name, m, l, a, e, b, g)
				}
			}
		}
		for _, l := range some {
			_, e := round.Round(m, l)
			if f := round.Enough(m, l); e != f {
				t.Errorf("Enough of %v, %v: %d, but Round %d", m, l, f, e)
			}
			round.Proves(m, lists(l, l))
		}
		a, e := round.Cuts(m)
		if b, g := round.Cuts(m); !sameLists(a, b) || e != g {
			t.Errorf("Cuts of %v: %v %d, then %v %d", m, a, e, b, g)
		}
	}
}

// R4: arguments are not changed, and what a caller does with a result changes nothing else.
func TestMemory(t *testing.T) {
	m, twice, side, sides := full(), list(0, 5), list(0, 3), lists(list(1), list(2))
	for name, f := range map[string]func() ([]int, api.Errno){
		"Odd":    func() ([]int, api.Errno) { return round.Odd(m) },
		"Fewest": func() ([]int, api.Errno) { return round.Fewest(m) },
		"Round":  func() ([]int, api.Errno) { return round.Round(m, twice) },
		"Goes":   func() ([]int, api.Errno) { return round.Goes(m, list(0, 3, 1, 2, 5, 5, 4, 0)) },
		"Cut":    func() ([]int, api.Errno) { return round.Cut(m, side) },
		"first of Cuts": func() ([]int, api.Errno) {
			l, e := round.Cuts(m)
			return l[0], e
		},
	} {
		first, e := f()
		if len(first) == 0 || e != api.OK {
			t.Fatalf("%s: %v %d", name, first, e)
		}
		want := slices.Clone(first)
		for i := range first {
			first[i] = -1
		}
		if second, _ := f(); !slices.Equal(second, want) {
			t.Errorf("%s: %v after its result was changed, want %v", name, second, want)
		}
	}
	round.Enough(m, twice)
	round.Proves(m, sides)
	round.Even(m)
	round.Count(m)
	if !slices.Equal(m.Streets, full().Streets) || m.Corners != 4 || !slices.Equal(twice, list(0, 5)) || !slices.Equal(side, list(0, 3)) || !sameLists(sides, lists(list(1), list(2))) {
		t.Errorf("an argument was changed: %v %v %v %v", m, twice, side, sides)
	}
}
