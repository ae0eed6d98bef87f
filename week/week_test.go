package week_test

import (
	"math"
	"slices"
	"testing"

	"breeze/api"
	"breeze/week"
)

func list(l ...int) []int { return l }

func lists(l ...[]int) [][]int { return l }

func sameLists(a, b [][]int) bool { return slices.EqualFunc(a, b, slices.Equal[[]int]) }

func cloned(l [][]int) [][]int {
	var out [][]int
	for _, x := range l {
		out = append(out, slices.Clone(x))
	}
	return out
}

// must is a result that may not be refused.
func must[T any](result T, e api.Errno) T {
	if e != api.OK {
		panic(e)
	}
	return result
}

func round(streets int) [][]int { return must(week.Round(streets)) }

// The plan A and the corners B and C of the chapter's examples, all of three streets.
func one() [][]int  { return lists(list(0, 1, 2)) }
func bad() [][]int  { return lists(list(0, 1), list(1, 0)) }
func good() [][]int { return lists(list(0, 1), list(1, 2)) }

// five is a full plan of five streets that is no round plan, whatever the streets, days and carts are called.
func five() [][]int {
	return lists(list(0, 1, 3, 2, 4), list(1, 0, 4, 3, 2), list(3, 2, 1, 4, 0), list(4, 3, 2, 0, 1), list(2, 4, 0, 1, 3))
}

// P3.1

var checks = []struct {
	name    string
	streets int
	plan    [][]int
	want    api.Errno
}{
	{"A", 3, one(), api.OK},
	{"nil", 3, nil, api.OK},
	{"empty", 5, [][]int{}, api.OK},
	{"one street", 1, lists(list(0)), api.OK},
	{"full", 2, lists(list(1, 0), list(0, 1)), api.OK},
	{"round plan", 5, round(5), api.OK},
	{"not in order", 3, lists(list(2, 0, 1), list(0, 1, 2)), api.OK},
	{"no street", 0, nil, api.ErrRange},
	{"no street, a row", 0, lists(nil), api.ErrRange},
	{"-1 streets", -1, one(), api.ErrRange},
	{"6 streets", 6, nil, api.ErrRange},
	{"6 streets, 7 rows", 6, make([][]int, 7), api.ErrRange},
	{"most streets", math.MaxInt, one(), api.ErrRange},
	{"least streets", math.MinInt, one(), api.ErrRange},
	{"4 rows of 3", 3, lists(list(0, 1, 2), list(1, 2, 0), list(2, 0, 1), list(0, 1, 2)), api.ErrMany},
	{"4 wrong rows", 3, make([][]int, 4), api.ErrMany},
	{"2 rows of 1", 1, lists(list(0), list(0)), api.ErrMany},
	{"short row", 3, lists(list(0, 1)), api.ErrShape},
	{"no numbers", 3, lists(nil), api.ErrShape},
	{"long row", 3, lists(list(0, 1, 2, 0)), api.ErrShape},
	{"long wrong row", 3, lists(list(7, 7, 7, 7)), api.ErrShape},
	{"short second row", 3, lists(list(0, 1, 2), list(1, 2)), api.ErrShape},
	{"short wrong row", 3, lists(list(0, 1, 2), list(0, 9)), api.ErrShape},
	{"street 3", 3, lists(list(0, 1, 3)), api.ErrNone},
	{"street -1", 3, lists(list(-1, 1, 2)), api.ErrNone},
	{"greatest street", 3, lists(list(0, 1, math.MaxInt)), api.ErrNone},
	{"least street", 3, lists(list(0, 1, math.MinInt)), api.ErrNone},
	{"a street twice, both none", 3, lists(list(0, 4, 4)), api.ErrNone},
	{"twice", 3, lists(list(0, 1, 1)), api.ErrTwice},
	{"twice, far", 5, lists(list(4, 1, 2, 3, 4)), api.ErrTwice},
	{"clash", 3, lists(list(0, 1, 2), list(0, 2, 1)), api.ErrClash},
	{"clash with the first of two", 3, lists(list(0, 1, 2), list(1, 2, 0), list(2, 1, 0)), api.ErrClash},
	{"four streets", 4, lists(list(0, 1, 2, 3), list(1, 0, 3, 2), list(3, 2, 0, 1), list(2, 3, 1, 0)), api.OK},
	{"clash on no day but the last one", 4, lists(list(0, 1, 2, 3), list(1, 2, 0, 3)), api.ErrClash},
	{"the same row", 2, lists(list(0, 1), list(0, 1)), api.ErrClash},
	// the first row with an error decides, and in it the first number
	{"shape before none", 3, lists(list(0, 1), list(0, 1, 3)), api.ErrShape},
	{"none before shape", 3, lists(list(0, 1, 3), list(0, 1)), api.ErrNone},
	{"clash before shape", 3, lists(list(0, 1, 2), list(0, 2, 1), list(1)), api.ErrClash},
	{"twice before none", 3, lists(list(0, 0, 3)), api.ErrTwice},
	{"none before twice", 3, lists(list(0, 3, 0)), api.ErrNone},
	{"clash before twice", 3, lists(list(0, 1, 2), list(0, 0, 1)), api.ErrClash},
	{"twice and clash, then none", 3, lists(list(0, 1, 2), list(1, 1, 3)), api.ErrTwice},
	{"twice and clash at once", 3, lists(list(0, 1, 2), list(1, 2, 2)), api.ErrTwice},
	{"clash, then none", 3, lists(list(0, 1, 2), list(2, 1, 3)), api.ErrClash},
	{"none, then clash", 3, lists(list(0, 1, 2), list(3, 1, 2)), api.ErrNone},
}

func TestCheck(t *testing.T) {
	for _, x := range checks {
		if e := week.Check(x.streets, x.plan); e != x.want {
			t.Errorf("%s: %d, want %d", x.name, e, x.want)
		}
	}
}

// All functions of a plan return Check's error before any of their own.
func TestCheckComesFirst(t *testing.T) {
	for _, x := range checks {
		if x.want == api.OK {
			continue
		}
		for name, f := range map[string]func(int, [][]int) ([][]int, api.Errno){"Free": week.Free, "Full": week.Full, "Turned": week.Turned} {
			if l, e := f(x.streets, x.plan); len(l) > 0 || e != x.want {
				t.Errorf("%s of %s: %v %d, want %d", name, x.name, l, e, x.want)
			}
		}
		for name, f := range map[string]func(int, [][]int) ([]int, api.Errno){"Next": week.Next, "Cross": week.Cross} {
			if l, e := f(x.streets, x.plan); len(l) > 0 || e != x.want {
				t.Errorf("%s of %s: %v %d, want %d", name, x.name, l, e, x.want)
			}
		}
		for name, f := range map[string]func(int, [][]int) (int, api.Errno){"Count": week.Count, "Crosses": week.Crosses} {
			if n, e := f(x.streets, x.plan); n != 0 || e != x.want {
				t.Errorf("%s of %s: %d %d, want %d", name, x.name, n, e, x.want)
			}
		}
	}
}

// P3.2 and P3.3

func TestRows(t *testing.T) {
	for _, x := range []struct {
		streets int
		plan    [][]int
		free    [][]int
		next    []int
		count   int
		full    [][]int
	}{
		{3, one(), lists(list(1, 2), list(0, 2), list(0, 1)), list(1, 2, 0), 2, lists(list(0, 1, 2), list(1, 2, 0), list(2, 0, 1))},
		{1, nil, lists(list(0)), list(0), 1, lists(list(0))},
		{2, nil, lists(list(0, 1), list(0, 1)), list(0, 1), 2, lists(list(0, 1), list(1, 0))},
		{2, lists(list(1, 0)), lists(list(0), list(1)), list(0, 1), 1, lists(list(1, 0), list(0, 1))},
		{3, lists(list(2, 0, 1)), lists(list(0, 1), list(1, 2), list(0, 2)), list(0, 1, 2), 2, lists(list(2, 0, 1), list(0, 1, 2), list(1, 2, 0))},
		{3, lists(list(2, 1, 0), list(0, 2, 1)), lists(list(1), list(0), list(2)), list(1, 0, 2), 1, lists(list(2, 1, 0), list(0, 2, 1), list(1, 0, 2))},
		{4, nil, lists(list(0, 1, 2, 3), list(0, 1, 2, 3), list(0, 1, 2, 3), list(0, 1, 2, 3)), list(0, 1, 2, 3), 24, lists(list(0, 1, 2, 3), list(1, 0, 3, 2), list(2, 3, 0, 1), list(3, 2, 1, 0))},
		{4, round(4)[:1], lists(list(1, 2, 3), list(0, 2, 3), list(0, 1, 3), list(0, 1, 2)), list(1, 0, 3, 2), 9, lists(list(0, 1, 2, 3), list(1, 0, 3, 2), list(2, 3, 0, 1), list(3, 2, 1, 0))},
		{4, round(4)[:2], lists(list(2, 3), list(0, 3), list(0, 1), list(1, 2)), list(2, 3, 0, 1), 2, round(4)},
		{5, round(5)[:1], lists(list(1, 2, 3, 4), list(0, 2, 3, 4), list(0, 1, 3, 4), list(0, 1, 2, 4), list(0, 1, 2, 3)), list(1, 0, 3, 4, 2), 44, lists(list(0, 1, 2, 3, 4), list(1, 0, 3, 4, 2), list(2, 3, 4, 0, 1), list(3, 4, 1, 2, 0), list(4, 2, 0, 1, 3))},
	} {
		if l, e := week.Free(x.streets, x.plan); !sameLists(l, x.free) || e != api.OK {
			t.Errorf("Free of %v: %v %d, want %v", x.plan, l, e, x.free)
		}
		if l, e := week.Next(x.streets, x.plan); !slices.Equal(l, x.next) || e != api.OK {
			t.Errorf("Next of %v: %v %d, want %v", x.plan, l, e, x.next)
		}
		if n, e := week.Count(x.streets, x.plan); n != x.count || e != api.OK {
			t.Errorf("Count of %v: %d %d, want %d", x.plan, n, e, x.count)
		}
		if l, e := week.Full(x.streets, x.plan); !sameLists(l, x.full) || e != api.OK {
			t.Errorf("Full of %v: %v %d, want %v", x.plan, l, e, x.full)
		}
	}
}

// A full plan has no street free, no row fits it, and it is the full plan itself.
func TestRowsOfFullPlans(t *testing.T) {
	for _, plan := range [][][]int{round(1), lists(list(1, 0), list(0, 1)), round(4), round(5)} {
		n := len(plan)
		if l, e := week.Free(n, plan); !sameLists(l, make([][]int, n)) || e != api.OK {
			t.Errorf("Free of %v: %v %d", plan, l, e)
		}
		if l, e := week.Next(n, plan); len(l) > 0 || e != api.ErrFull {
			t.Errorf("Next of %v: %v %d", plan, l, e)
		}
		if m, e := week.Count(n, plan); m != 0 || e != api.ErrFull {
			t.Errorf("Count of %v: %d %d", plan, m, e)
		}
		if l, e := week.Full(n, plan); !sameLists(l, plan) || e != api.OK {
			t.Errorf("Full of %v: %v %d", plan, l, e)
		}
	}
}

func TestTurned(t *testing.T) {
	for _, x := range []struct {
		streets    int
		plan, want [][]int
	}{
		{3, lists(list(1, 2, 0)), lists(list(2, 0, 1))},
		{3, one(), one()},
		{3, nil, nil},
		{1, lists(list(0)), lists(list(0))},
		{3, lists(list(2, 0, 1), list(1, 2, 0)), lists(list(1, 2, 0), list(2, 0, 1))},
		{4, lists(list(1, 3, 0, 2), list(3, 2, 1, 0)), lists(list(2, 0, 3, 1), list(3, 2, 1, 0))},
	} {
		if l, e := week.Turned(x.streets, x.plan); !sameLists(l, x.want) || e != api.OK {
			t.Errorf("Turned of %v: %v %d, want %v", x.plan, l, e, x.want)
		}
	}
}

// P3.4

var corners = []struct {
	name    string
	streets int
	corner  [][]int
	want    api.Errno
}{
	{"B", 3, bad(), api.OK},
	{"C", 3, good(), api.OK},
	{"nil", 2, nil, api.OK},
	{"empty", 2, [][]int{}, api.OK},
	{"lists without numbers", 3, lists(nil, list(), nil), api.OK},
	{"one number", 5, lists(list(4)), api.OK},
	{"one day", 3, lists(list(2), list(0), list(1)), api.OK},
	{"a plan", 4, round(4), api.OK},
	{"0 streets", 0, nil, api.ErrRange},
	{"-1 streets", -1, bad(), api.ErrRange},
	{"6 streets", 6, nil, api.ErrRange},
	{"6 streets, 7 lists", 6, make([][]int, 7), api.ErrRange},
	{"most streets", math.MaxInt, bad(), api.ErrRange},
	{"least streets", math.MinInt, bad(), api.ErrRange},
	{"3 lists of 2", 2, make([][]int, 3), api.ErrMany},
	{"3 wrong lists of 2", 2, lists(list(0), list(5, 5), nil), api.ErrMany},
	{"shorter", 3, lists(list(0, 1), list(1)), api.ErrShape},
	{"longer", 3, lists(list(0), list(1, 2)), api.ErrShape},
	{"one without numbers", 3, lists(list(0), nil), api.ErrShape},
	{"first without numbers", 3, lists(nil, list(0)), api.ErrShape},
	{"4 numbers of 3", 3, lists(list(0, 1, 2, 0)), api.ErrShape},
	{"4 wrong numbers of 3", 3, lists(list(9, 9, 9, 9)), api.ErrShape},
	{"longer than the first one and than the streets", 3, lists(list(0), list(1, 2, 0, 1)), api.ErrShape},
	{"shorter, and wrong", 3, lists(list(0, 1), list(7)), api.ErrShape},
	{"street 3", 3, lists(list(0, 3)), api.ErrNone},
	{"street -1", 3, lists(list(-1)), api.ErrNone},
	{"greatest street", 3, lists(list(0), list(math.MaxInt)), api.ErrNone},
	{"least street", 3, lists(list(0), list(math.MinInt)), api.ErrNone},
	{"none, twice", 3, lists(list(3, 3)), api.ErrNone},
	{"twice", 3, lists(list(0, 0)), api.ErrTwice},
	{"twice, far", 5, lists(list(1, 2, 3, 1)), api.ErrTwice},
	{"clash", 3, lists(list(0), list(0)), api.ErrClash},
	{"clash with the first of two", 3, lists(list(0, 1), list(1, 2), list(2, 1)), api.ErrClash},
	{"twice and clash at once", 3, lists(list(0, 1), list(1, 1)), api.ErrTwice},
	// the first list with an error decides, and in it the first number
	{"none before shape", 3, lists(list(0, 3), list(1)), api.ErrNone},
	{"shape before none", 3, lists(list(0, 1), list(1), list(1, 3)), api.ErrShape},
	{"twice before none", 4, lists(list(0, 0, 4)), api.ErrTwice},
	{"none before twice", 4, lists(list(0, 4, 0)), api.ErrNone},
	{"clash before none", 3, lists(list(0, 1), list(0, 3)), api.ErrClash},
	{"clash before shape", 3, lists(list(0, 1), list(0, 2), list(1)), api.ErrClash},
}

func TestCorner(t *testing.T) {
	for _, x := range corners {
		if e := week.Corner(x.streets, x.corner); e != x.want {
			t.Errorf("%s: %d, want %d", x.name, e, x.want)
		}
	}
}

// All functions of a corner return Corner's error before any of their own.
func TestCornerComesFirst(t *testing.T) {
	for _, x := range corners {
		if x.want == api.OK {
			continue
		}
		if i, e := week.Why(x.streets, x.corner); i != 0 || e != x.want {
			t.Errorf("Why of %s: %d %d, want %d", x.name, i, e, x.want)
		}
		if l, e := week.Fill(x.streets, x.corner); len(l) > 0 || e != x.want {
			t.Errorf("Fill of %s: %v %d, want %d", x.name, l, e, x.want)
		}
		for _, i := range list(-1, 0, 7) {
			if e := week.Proves(x.streets, x.corner, i); e != x.want {
				t.Errorf("Proves of %s: %d: %d, want %d", x.name, i, e, x.want)
			}
		}
	}
}

// P3.5

func TestWhyAndFill(t *testing.T) {
	for _, x := range []struct {
		streets int
		corner  [][]int
		bars    int
		why     api.Errno
		full    [][]int
		fill    api.Errno
	}{
		{3, bad(), 2, api.OK, nil, api.ErrLost},
		{3, good(), 0, api.ErrClash, lists(list(0, 1, 2), list(1, 2, 0), list(2, 0, 1)), api.OK},
		{2, nil, 0, api.ErrClash, lists(list(0, 1), list(1, 0)), api.OK},
		{2, lists(nil, nil), 0, api.ErrClash, lists(list(0, 1), list(1, 0)), api.OK},
		{1, lists(nil), 0, api.ErrClash, lists(list(0)), api.OK},
		{2, lists(list(1)), 0, api.ErrClash, lists(list(1, 0), list(0, 1)), api.OK},
		{3, lists(list(2), list(0)), 0, api.ErrClash, lists(list(2, 0, 1), list(0, 1, 2), list(1, 2, 0)), api.OK},
		{3, lists(list(2), list(1), list(0)), 0, api.ErrClash, lists(list(2, 0, 1), list(1, 2, 0), list(0, 1, 2)), api.OK},
		// of several streets the smallest one
		{4, lists(list(2, 1), list(1, 2), list(0, 3)), 0, api.ErrClash, lists(list(2, 1, 0, 3), list(1, 2, 3, 0), list(0, 3, 1, 2), list(3, 0, 2, 1)), api.OK},
		{4, lists(list(1, 2, 3), list(2, 3, 1)), 0, api.OK, nil, api.ErrLost},
		{4, lists(list(3, 1, 0), list(0, 3, 1)), 2, api.OK, nil, api.ErrLost},
		{4, lists(list(1, 2, 0), list(2, 1, 3), list(0, 3, 1)), 0, api.ErrClash, lists(list(1, 2, 0, 3), list(2, 1, 3, 0), list(0, 3, 1, 2), list(3, 0, 2, 1)), api.OK},
		{4, lists(list(1, 2, 3), list(2, 3, 1), list(3, 1, 0)), 0, api.OK, nil, api.ErrLost},
		{5, lists(list(4, 3, 2, 1), list(3, 4, 1, 2)), 0, api.OK, nil, api.ErrLost},
		{5, lists(list(0, 1, 2), list(1, 2, 0), list(2, 0, 1)), 3, api.OK, nil, api.ErrLost},
		// street 1 is there, but only once
		{5, lists(list(0, 2, 3, 4), list(2, 0, 4, 3), list(3, 4, 0, 1)), 1, api.OK, nil, api.ErrLost},
		{5, lists(list(0, 2, 3, 4), list(2, 0, 1, 3), list(3, 4, 0, 1)), 0, api.ErrClash, lists(list(0, 2, 3, 4, 1), list(2, 0, 1, 3, 4), list(3, 4, 0, 1, 2), list(1, 3, 4, 2, 0), list(4, 1, 2, 0, 3)), api.OK},
	} {
		if i, e := week.Why(x.streets, x.corner); i != x.bars || e != x.why {
			t.Errorf("Why of %v: %d %d, want %d %d", x.corner, i, e, x.bars, x.why)
		}
		if l, e := week.Fill(x.streets, x.corner); !sameLists(l, x.full) || e != x.fill {
			t.Errorf("Fill of %v: %v %d, want %v %d", x.corner, l, e, x.full, x.fill)
		}
	}
}

func TestProves(t *testing.T) {
	for _, x := range []struct {
		streets int
		corner  [][]int
		street  int
		want    api.Errno
	}{
		{3, bad(), 2, api.OK},
		{3, bad(), 0, api.ErrProof},
		{3, bad(), 1, api.ErrProof},
		{3, bad(), 3, api.ErrNone},
		{3, bad(), -1, api.ErrNone},
		{3, bad(), math.MaxInt, api.ErrNone},
		{3, bad(), math.MinInt, api.ErrNone},
		{3, good(), 2, api.ErrProof},
		{3, good(), 3, api.ErrNone},
		{3, nil, 0, api.ErrProof},
		{3, nil, 3, api.ErrNone},
		{5, lists(nil, nil, nil, nil, nil), 4, api.ErrProof},
		// a street that is not the smallest one proves it as well
		{5, lists(list(0, 1, 2), list(1, 2, 0), list(2, 0, 1)), 3, api.OK},
		{5, lists(list(0, 1, 2), list(1, 2, 0), list(2, 0, 1)), 4, api.OK},
		{5, lists(list(0, 1, 2), list(1, 2, 0), list(2, 0, 1)), 2, api.ErrProof},
		// 3 lists and 4 numbers are 2 more than 5
		{5, lists(list(0, 2, 3, 4), list(2, 0, 4, 3), list(3, 4, 0, 1)), 1, api.OK},
		{5, lists(list(0, 2, 3, 4), list(2, 0, 1, 3), list(3, 4, 0, 1)), 1, api.ErrProof},
		{5, lists(list(0, 2, 3, 4), list(2, 0, 1, 3), list(3, 4, 0, 1)), 2, api.ErrProof},
	} {
		if e := week.Proves(x.streets, x.corner, x.street); e != x.want {
			t.Errorf("Proves of %v: %d: %d, want %d", x.corner, x.street, e, x.want)
		}
	}
}

// P3.6

func TestRound(t *testing.T) {
	for _, x := range []struct {
		streets int
		want    [][]int
		e       api.Errno
	}{
		{1, lists(list(0)), api.OK},
		{2, lists(list(0, 1), list(1, 0)), api.OK},
		{3, lists(list(0, 1, 2), list(1, 2, 0), list(2, 0, 1)), api.OK},
		{5, lists(list(0, 1, 2, 3, 4), list(1, 2, 3, 4, 0), list(2, 3, 4, 0, 1), list(3, 4, 0, 1, 2), list(4, 0, 1, 2, 3)), api.OK},
		{0, nil, api.ErrRange},
		{-1, nil, api.ErrRange},
		{6, nil, api.ErrRange},
		{math.MaxInt, nil, api.ErrRange},
		{math.MinInt, nil, api.ErrRange},
	} {
		if l, e := week.Round(x.streets); !sameLists(l, x.want) || e != x.e {
			t.Errorf("Round of %d: %v %d, want %v %d", x.streets, l, e, x.want, x.e)
		}
	}
}

func TestCross(t *testing.T) {
	for _, x := range []struct {
		streets int
		plan    [][]int
		days    []int
		cross   api.Errno
		many    int
		crosses api.Errno
	}{
		{1, round(1), list(0), api.OK, 1, api.OK},
		{2, round(2), nil, api.ErrLost, 0, api.OK},
		{3, round(3), list(0, 1, 2), api.OK, 3, api.OK},
		{4, round(4), nil, api.ErrLost, 0, api.OK},
		{5, round(5), list(0, 1, 2, 3, 4), api.OK, 15, api.OK},
		{4, lists(list(0, 1, 2, 3), list(1, 0, 3, 2), list(2, 3, 0, 1), list(3, 2, 1, 0)), list(0, 2, 3, 1), api.OK, 8, api.OK},
		{3, lists(list(1, 0, 2), list(0, 2, 1), list(2, 1, 0)), list(0, 1, 2), api.OK, 3, api.OK},
		{3, one(), nil, api.ErrOpen, 0, api.ErrOpen},
		{3, nil, nil, api.ErrOpen, 0, api.ErrOpen},
		{5, round(5)[:4], nil, api.ErrOpen, 0, api.ErrOpen},
		{1, nil, nil, api.ErrOpen, 0, api.ErrOpen},
	} {
		if l, e := week.Cross(x.streets, x.plan); !slices.Equal(l, x.days) || e != x.cross {
			t.Errorf("Cross of %v: %v %d, want %v %d", x.plan, l, e, x.days, x.cross)
		}
		if n, e := week.Crosses(x.streets, x.plan); n != x.many || e != x.crosses {
			t.Errorf("Crosses of %v: %d %d, want %d %d", x.plan, n, e, x.many, x.crosses)
		}
	}
}

// P1: each function ends, does not panic, and returns the same for the same arguments.
func TestAllArguments(t *testing.T) {
	some := [][][]int{nil, {}, {nil}, {{0}}, {{0}, {1}}, {{1, 0}}, {{0, 1}, {1}}, {{math.MaxInt, math.MinInt}}, make([][]int, 1000), {make([]int, 1000)}, one(), bad(), good(), round(4), five()}
	for _, n := range list(-1, 0, 1, 2, 3, 4, 5, 6, 1000, math.MaxInt, math.MinInt) {
		for _, l := range some {
			for name, f := range map[string]func(int, [][]int) ([][]int, api.Errno){
				"Free": week.Free, "Full": week.Full, "Turned": week.Turned, "Fill": week.Fill,
				"Round": func(n int, _ [][]int) ([][]int, api.Errno) { return week.Round(n) },
				"Next":  listed(week.Next), "Cross": listed(week.Cross),
				"Count": counted(week.Count), "Crosses": counted(week.Crosses), "Why": counted(week.Why),
			} {
				a, e := f(n, l)
				b, g := f(n, l)
				if !sameLists(a, b) || e != g {
					t.Errorf("%s of %d, %v: %v %d, then %v %d", name, n, l, a, e, b, g)
				}
			}
			for _, i := range list(-1, 0, 4, 5, math.MaxInt, math.MinInt) {
				if e, g := week.Proves(n, l, i), week.Proves(n, l, i); e != g {
					t.Errorf("Proves of %d, %v: %d: %d, then %d", n, l, i, e, g)
				}
			}
			if e, g := week.Check(n, l), week.Check(n, l); e != g {
				t.Errorf("Check of %d, %v: %d, then %d", n, l, e, g)
			}
			if e, g := week.Corner(n, l), week.Corner(n, l); e != g {
				t.Errorf("Corner of %d, %v: %d, then %d", n, l, e, g)
			}
		}
	}
}

func listed(f func(int, [][]int) ([]int, api.Errno)) func(int, [][]int) ([][]int, api.Errno) {
	return func(n int, l [][]int) ([][]int, api.Errno) {
		x, e := f(n, l)
		return lists(x), e
	}
}

func counted(f func(int, [][]int) (int, api.Errno)) func(int, [][]int) ([][]int, api.Errno) {
	return func(n int, l [][]int) ([][]int, api.Errno) {
		x, e := f(n, l)
		return lists(list(x)), e
	}
}

// R4: arguments are not changed, and what a caller does with a result changes nothing else.
func TestMemory(t *testing.T) {
	plan, corner, whole := lists(list(2, 0, 1)), lists(list(0, 1), list(1, 2)), round(5)
	for name, f := range map[string]func() ([][]int, api.Errno){
		"Free":         func() ([][]int, api.Errno) { return week.Free(3, plan) },
		"Full":         func() ([][]int, api.Errno) { return week.Full(3, plan) },
		"Full of full": func() ([][]int, api.Errno) { return week.Full(5, whole) },
		"Turned":       func() ([][]int, api.Errno) { return week.Turned(3, plan) },
		"Fill":         func() ([][]int, api.Errno) { return week.Fill(3, corner) },
		"Fill of full": func() ([][]int, api.Errno) { return week.Fill(5, whole) },
		"Round":        func() ([][]int, api.Errno) { return week.Round(4) },
		"Next":         func() ([][]int, api.Errno) { return listed(week.Next)(3, plan) },
		"Cross":        func() ([][]int, api.Errno) { return listed(week.Cross)(5, whole) },
		"Count and Crosses": func() ([][]int, api.Errno) {
			return lists(list(must(week.Count(3, plan)), must(week.Crosses(5, whole)))), api.OK
		},
	} {
		before := must(f())
		want := cloned(before)
		for i, l := range before {
			for j := range l {
				l[j] = -1
			}
			before[i] = append(l, -1)
			if k := i + 1; k < len(before) && !slices.Equal(before[k], want[k]) {
				t.Errorf("%s: the lists %d and %d share memory", name, i, k)
			}
		}
		if got := must(f()); !sameLists(got, want) {
			t.Errorf("%s: %v after its result was changed, want %v", name, got, want)
		}
	}
	week.Why(3, corner)
	week.Proves(3, corner, 0)
	if !sameLists(plan, lists(list(2, 0, 1))) || !sameLists(corner, good()) || !sameLists(whole, round(5)) {
		t.Errorf("an argument was changed: %v %v %v", plan, corner, whole)
	}
}
