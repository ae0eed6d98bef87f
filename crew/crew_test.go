package crew_test

import (
	"math"
	"slices"
	"strings"
	"testing"

	"breeze/api"
	"breeze/crew"
)

func list(l ...int) []int { return l }

func lists(l ...[]int) [][]int { return l }

// must is a result that may not be refused.
func must[T any](result T, e api.Errno) T {
	if e != api.OK {
		panic(e)
	}
	return result
}

// equal are so many equal numbers.
func equal(many, n int) []int { return slices.Repeat(list(n), many) }

// pairs reads pairs as the chapter's examples write them.
func pairs(text string) [][2]int {
	var l [][2]int
	for _, pair := range strings.Fields(text) {
		l = append(l, [2]int{int(pair[0] - '0'), int(pair[1] - '0')})
	}
	return l
}

// of returns a crew with the pairs of each kind.
func of(sifters int, kinds ...string) crew.Crew {
	c := crew.Crew{Sifters: sifters}
	for _, text := range kinds {
		c.Kinds = append(c.Kinds, pairs(text))
	}
	return c
}

// raw returns a crew with a single kind.
func raw(sifters int, kind ...[2]int) crew.Crew { return crew.Crew{sifters, [][][2]int{kind}} }

// The crews A, B and D of the chapter's examples.

func crewA() crew.Crew { return of(3, "01", "01 12", "02") }

func crewB() crew.Crew { return of(3, "01 12", "01 02", "12 02") }

func crewD() crew.Crew { return of(4, slices.Repeat([]string{"01 02 03 12 13 23"}, 3)...) }

// idle has no kinds.
func idle() crew.Crew { return of(2) }

// lone has one sifter, and kinds that nobody can sift.
func lone() crew.Crew { return of(1, "", "") }

// greatest has as many sifters, kinds and pairs as there can be.
func greatest() crew.Crew {
	return of(5, "01 02 03 04 12 13", "34 24 23 14 13 12", "04 13 24 01 12 23", "02 03 04 12 13 14", "34 01 02 12 23 03")
}

// apart has sifters who are in groups that no pair joins.
func apart() crew.Crew { return of(5, "01 02 12", "12 02", "34", "", "34 01") }

func valid() []crew.Crew {
	return []crew.Crew{crewA(), crewB(), crewD(), idle(), lone(), greatest(), apart()}
}

// P10.1

var checks = []struct {
	name string
	c    crew.Crew
	want api.Errno
}{
	{"A", crewA(), api.OK},
	{"B", crewB(), api.OK},
	{"D", crewD(), api.OK},
	{"no kinds", idle(), api.OK},
	{"an empty list of kinds", crew.Crew{5, [][][2]int{}}, api.OK},
	{"one sifter", of(1), api.OK},
	{"kinds without pairs", lone(), api.OK},
	{"a kind with an empty list", crew.Crew{1, [][][2]int{{}}}, api.OK},
	{"five sifters, five kinds, six pairs", greatest(), api.OK},
	{"five kinds without pairs", of(5, "", "", "", "", ""), api.OK},
	{"pairs in any order", of(3, "12 01 02"), api.OK},
	{"a pair in several kinds", of(3, "12", "12", "02 12"), api.OK},
	{"the last pair of five sifters", of(5, "34"), api.OK},
	{"nothing", crew.Crew{}, api.ErrRange},
	{"6 sifters", of(6), api.ErrRange},
	{"-1 sifters", of(-1), api.ErrRange},
	{"the greatest number of sifters", of(math.MaxInt), api.ErrRange},
	{"the least number of sifters", of(math.MinInt), api.ErrRange},
	{"6 sifters, and six kinds", of(6, "", "", "", "", "", ""), api.ErrRange},
	{"0 sifters, and a pair", of(0, "01"), api.ErrRange},
	{"6 sifters, and seven pairs", of(6, "01 01 01 01 01 01 01"), api.ErrRange},
	{"six kinds", of(2, "01", "01", "01", "01", "01", "01"), api.ErrMany},
	{"six kinds without pairs", of(2, "", "", "", "", "", ""), api.ErrMany},
	{"six kinds, and no such sifter", of(2, "02", "", "", "", "", ""), api.ErrMany},
	{"a thousand kinds", crew.Crew{2, make([][][2]int, 1000)}, api.ErrMany},
	{"seven pairs", of(5, "01 02 03 04 12 13 14"), api.ErrMany},
	{"seven pairs, and no such sifter", of(4, "04 02 03 01 12 13 23"), api.ErrMany},
	{"seven pairs, and a wrong order", of(5, "10 02 03 04 12 13 14"), api.ErrMany},
	{"seven pairs, one of them twice", of(4, "01 01 02 03 12 13 23"), api.ErrMany},
	{"a thousand pairs", raw(2, make([][2]int, 1000)...), api.ErrMany},
	{"a pair 02 of two sifters", of(2, "02"), api.ErrNone},
	{"a pair 22 of two sifters", of(2, "22"), api.ErrNone},
	{"a pair 20 of two sifters", of(2, "20"), api.ErrNone},
	{"a pair 01 of one sifter", of(1, "01"), api.ErrNone},
	{"a pair from -1", raw(2, [2]int{-1, 0}), api.ErrNone},
	{"a pair to -1", raw(2, [2]int{0, -1}), api.ErrNone},
	{"a pair of the greatest number", raw(2, [2]int{0, math.MaxInt}), api.ErrNone},
	{"a pair of the least number", raw(2, [2]int{math.MinInt, 1}), api.ErrNone},
	{"a pair of no sifters", raw(5, [2]int{5, 6}), api.ErrNone},
	{"a pair of no sifter twice", of(2, "02 02"), api.ErrNone},
	{"00", of(2, "00"), api.ErrOrder},
	{"10", of(2, "10"), api.ErrOrder},
	{"10 twice", of(2, "10 10"), api.ErrOrder},
	{"01 and 10", of(2, "01 10"), api.ErrOrder},
	{"01 twice", of(2, "01 01"), api.ErrTwice},
	{"a pair twice, not at once", of(3, "01 12 02 01"), api.ErrTwice},
	{"the last pair is there before", of(4, "01 02 03 12 13 13"), api.ErrTwice},
	// the first pair with an error decides
	{"a wrong order, then no sifter", of(2, "10 02"), api.ErrOrder},
	{"no sifter, then a wrong order", of(2, "02 10"), api.ErrNone},
	{"a pair twice, then no sifter", of(2, "01 01 02"), api.ErrTwice},
	{"no sifter, then a pair twice", of(2, "01 02 01"), api.ErrNone},
	{"a pair twice, then a wrong order", of(2, "01 01 10"), api.ErrTwice},
	{"a wrong order, then a pair twice", of(2, "01 10 01"), api.ErrOrder},
	// the first kind with an error decides
	{"a kind with a pair twice, one with seven", of(5, "01 01", "01 02 03 04 12 13 14"), api.ErrTwice},
	{"a kind with seven pairs, one with a pair twice", of(5, "01 02 03 04 12 13 14", "01 01"), api.ErrMany},
	{"a kind with a wrong order, one with no sifter", of(2, "", "10", "02"), api.ErrOrder},
	{"a kind with no sifter, one with a wrong order", of(2, "01", "02", "10"), api.ErrNone},
	{"the last kind", of(3, "01", "01", "01", "01", "01 12 12"), api.ErrTwice},
}

func TestCheck(t *testing.T) {
	for _, c := range checks {
		if e := crew.Check(c.c); e != c.want {
			t.Errorf("%s: %d, want %d", c.name, e, c.want)
		}
	}
}

// result is what a function returns: a list, a number, an answer, and an error.
type result struct {
	l   []int
	n   int
	yes bool
	e   api.Errno
}

func (r result) same(other result) bool {
	return slices.Equal(r.l, other.l) && r.n == other.n && r.yes == other.yes && r.e == other.e
}

// isZero tells whether there is nothing but an error.
func (r result) isZero() bool { return len(r.l) == 0 && r.n == 0 && !r.yes }

func several(l []int, e api.Errno) result { return result{l: l, e: e} }
func number(n int, e api.Errno) result    { return result{n: n, e: e} }
func answer(yes bool, e api.Errno) result { return result{yes: yes, e: e} }
func nothing(e api.Errno) result          { return result{e: e} }

// ofKinds returns what the functions with one list of kinds say.
func ofKinds(c crew.Crew, kinds []int) map[string]result {
	return map[string]result{
		"Rank":     number(crew.Rank(c, kinds)),
		"Together": answer(crew.Together(c, kinds)),
		"Proves":   nothing(crew.Proves(c, kinds)),
	}
}

// all returns what each function says.
func all(c crew.Crew, kinds, choice, a, b []int) map[string]result {
	results := ofKinds(c, kinds)
	results["Check"] = nothing(crew.Check(c))
	results["Valid"] = nothing(crew.Valid(c, choice))
	results["Ring"] = several(crew.Ring(c, choice))
	results["First"] = several(crew.First(c))
	results["Count"] = number(crew.Count(c))
	results["Most"] = several(crew.Most(c))
	results["More"] = number(crew.More(c, a, b))
	results["Why"] = several(crew.Why(c))
	return results
}

// someLists are kinds and choices of some crews, and lists that are neither of any.
var someLists = lists(nil, list(0), list(1), list(0, 1), list(1, 0), list(0, 0), list(0, 1, 2), list(0, 0, 5), list(0, 0, 6), list(2, 1, 0), list(4), list(5), list(-1), list(0, 1, 2, 3, 4), list(0, math.MaxInt), list(math.MinInt, 0), list(0, 5, 1), list(0, 1, 2, 3, 4, 5), equal(1000, 0))

// All functions return Check's error before any of their own.
func TestCheckComesFirst(t *testing.T) {
	for _, c := range checks {
		if c.want == api.OK {
			continue
		}
		for i, a := range someLists {
			for _, b := range someLists {
				for name, r := range all(c.c, a, b, a, someLists[(i+7)%len(someLists)]) {
					if !r.isZero() || r.e != c.want {
						t.Errorf("%s of %s, %v, %v: %v, want %d", name, c.name, a, b, r, c.want)
					}
				}
			}
		}
	}
}

// wrongKinds are lists of kinds of a crew of three kinds, and their errors.
var wrongKinds = []struct {
	kinds []int
	e     api.Errno
}{
	{list(3), api.ErrNone}, {list(-1), api.ErrNone}, {list(0, 3), api.ErrNone}, {list(0, 1, 2, 3), api.ErrNone},
	{list(math.MaxInt), api.ErrNone}, {list(math.MinInt, 0), api.ErrNone}, {list(1, -1), api.ErrNone},
	{list(1, 0), api.ErrOrder}, {list(1, 1), api.ErrOrder}, {list(0, 0, 0), api.ErrOrder}, {equal(1000, 0), api.ErrOrder},
	// the first number with an error decides
	{list(1, 0, 3), api.ErrOrder}, {list(1, 3, 0), api.ErrNone}, {list(2, 2, -1), api.ErrOrder},
}

// An error of a list of kinds comes before any error of the function; that of More's first list is the first.
func TestKindsComeSecond(t *testing.T) {
	for _, c := range []crew.Crew{crewA(), crewB(), crewD(), of(1, "", "", "")} {
		for _, x := range wrongKinds {
			for name, r := range ofKinds(c, x.kinds) {
				if !r.isZero() || r.e != x.e {
					t.Errorf("%s of %v, %v: %v, want %d", name, c, x.kinds, r, x.e)
				}
			}
			for _, right := range lists(nil, list(0), list(0, 1), list(0, 1, 2)) {
				if n, e := crew.More(c, right, x.kinds); n != 0 || e != x.e {
					t.Errorf("More of %v, %v, %v: %d %d, want %d", c, right, x.kinds, n, e, x.e)
				}
				if n, e := crew.More(c, x.kinds, right); n != 0 || e != x.e {
					t.Errorf("More of %v, %v, %v: %d %d, want %d", c, x.kinds, right, n, e, x.e)
				}
			}
			for _, y := range wrongKinds {
				if n, e := crew.More(c, x.kinds, y.kinds); n != 0 || e != x.e {
					t.Errorf("More of %v, %v, %v: %d %d, want %d", c, x.kinds, y.kinds, n, e, x.e)
				}
			}
		}
	}
}

// P10.2, P10.5 and P10.7

func TestKinds(t *testing.T) {
	for _, x := range []struct {
		c      crew.Crew
		kinds  []int
		rank   int
		yes    bool
		proves api.Errno
	}{
		{crewA(), list(0), 1, true, api.ErrProof},
		{crewA(), list(0, 1), 2, true, api.ErrProof},
		{crewA(), list(0, 1, 2), 2, false, api.OK},
		{crewA(), nil, 0, true, api.ErrProof},
		{crewA(), list(0, 2), 2, true, api.ErrProof},
		{crewA(), list(1, 2), 2, true, api.ErrProof},
		{crewB(), list(0, 1, 2), 2, false, api.OK},
		{crewB(), list(2), 2, true, api.ErrProof},
		{crewD(), list(0, 1, 2), 3, true, api.ErrProof},
		{crewD(), list(1), 3, true, api.ErrProof},
		{idle(), nil, 0, true, api.ErrProof},
		{lone(), nil, 0, true, api.ErrProof},
		{lone(), list(0), 0, false, api.OK},
		{lone(), list(0, 1), 0, false, api.OK},
		{greatest(), list(0, 1, 2, 3, 4), 4, false, api.OK},
		{greatest(), list(0, 1, 2, 3), 4, true, api.ErrProof},
		{apart(), list(0), 2, true, api.ErrProof},
		{apart(), list(0, 1), 2, true, api.ErrProof},
		{apart(), list(0, 1, 2), 3, true, api.ErrProof},
		{apart(), list(3), 0, false, api.OK},
		{apart(), list(2, 4), 2, true, api.ErrProof},
		{apart(), list(0, 1, 2, 4), 3, false, api.OK},
		// kinds that block the crew, and kinds that do not, but among which there are such kinds
		{of(3, "01", "01"), list(0, 1), 1, false, api.OK},
		{of(3, "01", "01", "01 12 02"), list(0, 1, 2), 2, false, api.OK},
		{of(4, "01", "01", "23 12 02 03"), list(0, 1, 2), 3, false, api.ErrProof},
		{of(4, "", "01 12 23"), list(0, 1), 3, false, api.ErrProof},
		// pairs that are joined one after the other, in any order
		{of(5, "01 23 12"), list(0), 3, true, api.ErrProof},
		{of(5, "01 23 04 13"), list(0), 4, true, api.ErrProof},
		{of(5, "01 12 02 34"), list(0), 3, true, api.ErrProof},
		{of(5, "34 24 23"), list(0), 2, true, api.ErrProof},
	} {
		if n, e := crew.Rank(x.c, x.kinds); n != x.rank || e != api.OK {
			t.Errorf("Rank of %v, %v: %d %d, want %d", x.c, x.kinds, n, e, x.rank)
		}
		if yes, e := crew.Together(x.c, x.kinds); yes != x.yes || e != api.OK {
			t.Errorf("Together of %v, %v: %v %d, want %v", x.c, x.kinds, yes, e, x.yes)
		}
		if e := crew.Proves(x.c, x.kinds); e != x.proves {
			t.Errorf("Proves of %v, %v: %d, want %d", x.c, x.kinds, e, x.proves)
		}
	}
}

// P10.3

func TestChoices(t *testing.T) {
	square := of(4, "01", "03 01", "12 03", "23")
	for _, x := range []struct {
		c           crew.Crew
		choice      []int
		valid       api.Errno
		ring        []int
		ringRefused api.Errno
	}{
		{crewD(), list(0, 1, 2), api.OK, nil, api.ErrClash},
		{crewD(), list(0, 1, 3), api.ErrClash, list(0, 1, 2), api.OK},
		{crewD(), list(0, 0, 5), api.ErrClash, list(0, 1), api.OK},
		{crewD(), list(5, 0, 0), api.ErrClash, list(1, 2), api.OK},
		{crewD(), list(0, 5, 0), api.ErrClash, list(0, 2), api.OK},
		{crewD(), list(4, 4, 4), api.ErrClash, list(0, 1), api.OK},
		{crewD(), list(0, 1), api.ErrShape, nil, api.ErrShape},
		{crewD(), nil, api.ErrShape, nil, api.ErrShape},
		{crewD(), list(0, 1, 2, 3), api.ErrShape, nil, api.ErrShape},
		{crewD(), list(0, 6, -1, 9), api.ErrShape, nil, api.ErrShape},
		{crewD(), equal(1000, 0), api.ErrShape, nil, api.ErrShape},
		{crewD(), list(0, 1, 6), api.ErrNone, nil, api.ErrNone},
		{crewD(), list(-1, 1, 2), api.ErrNone, nil, api.ErrNone},
		{crewD(), list(0, math.MaxInt, 2), api.ErrNone, nil, api.ErrNone},
		{crewD(), list(0, math.MinInt, 2), api.ErrNone, nil, api.ErrNone},
		// no such pair, beside pairs that make a ring
		{crewD(), list(0, 0, 6), api.ErrNone, nil, api.ErrNone},
		{crewA(), list(0, 1, 0), api.ErrClash, list(0, 1, 2), api.OK},
		{crewA(), list(0, 0, 0), api.ErrClash, list(0, 1), api.OK},
		{crewA(), list(0, 2, 0), api.ErrNone, nil, api.ErrNone},
		{crewA(), list(1, 1, 0), api.ErrNone, nil, api.ErrNone},
		{idle(), nil, api.OK, nil, api.ErrClash},
		{idle(), list(0), api.ErrShape, nil, api.ErrShape},
		{lone(), list(0, 0), api.ErrNone, nil, api.ErrNone},
		{lone(), list(0), api.ErrShape, nil, api.ErrShape},
		{of(3, "01", "02"), list(0, 0), api.OK, nil, api.ErrClash},
		// a ring of four
		{square, list(0, 0, 0, 0), api.ErrClash, list(0, 1, 2, 3), api.OK},
		{square, list(0, 1, 0, 0), api.ErrClash, list(0, 1), api.OK},
		{square, list(0, 0, 1, 0), api.ErrClash, list(1, 2), api.OK},
		{of(4, "01", "12", "23", "02"), list(0, 0, 0, 0), api.ErrClash, list(0, 1, 3), api.OK},
		{of(4, "01", "12", "23", "13"), list(0, 0, 0, 0), api.ErrClash, list(1, 2, 3), api.OK},
		{of(5, "34", "12", "02", "04", "13"), list(0, 0, 0, 0, 0), api.ErrClash, list(0, 1, 2, 3, 4), api.OK},
		{of(5, "01", "02", "03", "04"), list(0, 0, 0, 0), api.OK, nil, api.ErrClash},
		{of(5, "01", "34", "12", "24"), list(0, 0, 0, 0), api.OK, nil, api.ErrClash},
		// of several rings the shortest one comes before the first one
		{of(5, "01", "02", "12", "34", "34"), list(0, 0, 0, 0, 0), api.ErrClash, list(3, 4), api.OK},
		{of(4, "01", "12", "23", "03", "02"), list(0, 0, 0, 0, 0), api.ErrClash, list(0, 1, 4), api.OK},
		// and of several shortest ones the first one
		{of(3, "01", "12", "12", "01"), list(0, 0, 0, 0), api.ErrClash, list(0, 3), api.OK},
		{of(3, "02", "01", "12", "01", "12"), list(0, 0, 0, 0, 0), api.ErrClash, list(1, 3), api.OK},
		{of(5, "03", "34", "01", "04", "14"), list(0, 0, 0, 0, 0), api.ErrClash, list(0, 1, 3), api.OK},
	} {
		if e := crew.Valid(x.c, x.choice); e != x.valid {
			t.Errorf("Valid of %v, %v: %d, want %d", x.c, x.choice, e, x.valid)
		}
		if l, e := crew.Ring(x.c, x.choice); !slices.Equal(l, x.ring) || e != x.ringRefused {
			t.Errorf("Ring of %v, %v: %v %d, want %v %d", x.c, x.choice, l, e, x.ring, x.ringRefused)
		}
	}
}

// P10.4, P10.5 and P10.7

func TestCrews(t *testing.T) {
	for _, x := range []struct {
		c           crew.Crew
		first       []int
		count       int
		most, block []int
	}{
		{crewA(), nil, 0, list(0, 1), list(0, 1, 2)},
		{of(3, "01", "01 12"), list(0, 1), 1, list(0, 1), nil},
		{crewB(), nil, 0, list(0, 1), list(0, 1, 2)},
		{crewD(), list(0, 1, 2), 96, list(0, 1, 2), nil},
		{idle(), nil, 1, nil, nil},
		{of(1), nil, 1, nil, nil},
		{lone(), nil, 0, nil, list(0)},
		{of(5, "", "", "", "", ""), nil, 0, nil, list(0)},
		{of(2, "01"), list(0), 1, list(0), nil},
		{of(2, "01", "01"), nil, 0, list(0), list(0, 1)},
		{of(3, "01 02 12", "01 02 12"), list(0, 1), 6, list(0, 1), nil},
		{of(4, "01 02 03 12 13 23"), list(0), 6, list(0), nil},
		{greatest(), nil, 0, list(0, 1, 2, 3), list(0, 1, 2, 3, 4)},
		{apart(), nil, 0, list(0, 1, 2), list(3)},
		// the first pair of the first kind cannot be taken
		{of(3, "01 02", "01"), list(1, 0), 1, list(0, 1), nil},
		{of(4, "01 12 23", "12 01", "12 01"), list(2, 0, 1), 2, list(0, 1, 2), nil},
		// a kind that nobody can sift
		{of(3, "01", "", "02"), nil, 0, list(0, 2), list(1)},
		{of(3, "", "01", "01", "02", ""), nil, 0, list(1, 3), list(0)},
		// of several longest lists the first one
		{of(3, "01", "01", "02"), nil, 0, list(0, 2), list(0, 1)},
		{of(3, "02", "01", "01 02"), nil, 0, list(0, 1), list(0, 1, 2)},
		// of several kinds that block the crew the fewest ones come before the first ones
		{of(5, "01", "12", "01 02 12", "34", "34"), nil, 0, list(0, 1, 3), list(3, 4)},
		{of(4, "01 02", "01 12", "02 12", "23"), nil, 0, list(0, 1, 3), list(0, 1, 2)},
		{of(4, "23", "01 02", "01 12", "02 12"), nil, 0, list(0, 1, 2), list(1, 2, 3)},
		{of(4, "01 12", "12 23", "03 13", "02 23"), nil, 0, list(0, 1, 2), list(0, 1, 2, 3)},
		// and of several fewest ones the first ones
		{of(3, "01", "12", "12", "01"), nil, 0, list(0, 1), list(0, 3)},
		{of(3, "01 02", "12", "01", "12", "01"), nil, 0, list(0, 1), list(1, 3)},
	} {
		wantFirst, wantWhy := api.OK, api.ErrClash
		if x.count == 0 {
			wantFirst, wantWhy = api.ErrLost, api.OK
		}
		if l, e := crew.First(x.c); !slices.Equal(l, x.first) || e != wantFirst {
			t.Errorf("First of %v: %v %d, want %v %d", x.c, l, e, x.first, wantFirst)
		}
		if n, e := crew.Count(x.c); n != x.count || e != api.OK {
			t.Errorf("Count of %v: %d %d, want %d", x.c, n, e, x.count)
		}
		if l, e := crew.Most(x.c); !slices.Equal(l, x.most) || e != api.OK {
			t.Errorf("Most of %v: %v %d, want %v", x.c, l, e, x.most)
		}
		if l, e := crew.Why(x.c); !slices.Equal(l, x.block) || e != wantWhy {
			t.Errorf("Why of %v: %v %d, want %v %d", x.c, l, e, x.block, wantWhy)
		}
	}
}

// P10.6

func TestMore(t *testing.T) {
	twice := of(4, "01", "01", "02", "02 12 03")
	for _, x := range []struct {
		c    crew.Crew
		a, b []int
		want int
		e    api.Errno
	}{
		{crewA(), list(0), list(1, 2), 1, api.OK},
		{crewA(), nil, list(0), 0, api.OK},
		{crewA(), list(0), list(1), 0, api.ErrShape},
		{crewA(), list(0), list(0, 1, 2), 0, api.ErrLost},
		{crewA(), nil, list(0, 1, 2), 0, api.ErrLost},
		{crewA(), nil, nil, 0, api.ErrShape},
		{crewA(), list(0), nil, 0, api.ErrShape},
		{crewA(), list(0, 1), list(0, 1), 0, api.ErrShape},
		{crewA(), list(0, 1), list(2), 0, api.ErrShape},
		// what does not go together comes before a length
		{crewA(), list(0, 1, 2), list(0), 0, api.ErrLost},
		{crewA(), list(0, 1, 2), list(0, 1, 2), 0, api.ErrLost},
		{crewA(), list(0, 1), list(0, 1, 2), 0, api.ErrLost},
		{crewA(), nil, list(1, 2), 1, api.OK},
		{crewA(), list(2), list(0, 1), 0, api.OK},
		{crewA(), list(1), list(0, 2), 0, api.OK},
		// kinds that are in both lists
		{crewA(), list(0), list(0, 2), 2, api.OK},
		{crewA(), list(1), list(1, 2), 2, api.OK},
		{crewD(), list(0, 1), list(0, 1, 2), 2, api.OK},
		// the smallest kind does not go with the others
		{twice, list(0), list(1, 2), 2, api.OK},
		{twice, list(0, 2), list(1, 2, 3), 3, api.OK},
		{twice, list(0, 3), list(1, 2, 3), 2, api.OK},
		{twice, list(0, 1), list(0, 2, 3), 0, api.ErrLost},
		{twice, list(1), list(0, 2, 3), 2, api.OK},
		{lone(), nil, list(0), 0, api.ErrLost},
		{lone(), list(0), nil, 0, api.ErrLost},
		{lone(), list(0), list(1), 0, api.ErrLost},
		{idle(), nil, nil, 0, api.ErrShape},
		{idle(), nil, list(0), 0, api.ErrNone},
		{greatest(), list(1, 4), list(0, 2, 3), 0, api.OK},
		{greatest(), list(0, 1, 2, 3), list(0, 1, 2, 3, 4), 0, api.ErrLost},
	} {
		if n, e := crew.More(x.c, x.a, x.b); n != x.want || e != x.e {
			t.Errorf("More of %v, %v, %v: %d %d, want %d %d", x.c, x.a, x.b, n, e, x.want, x.e)
		}
	}
}

// P1: each function ends, does not panic, and returns the same for the same arguments.
func TestAllArguments(t *testing.T) {
	crews := valid()
	for _, c := range checks {
		crews = append(crews, c.c)
	}
	for _, c := range crews {
		for i, a := range someLists {
			// each list comes with some of the others
			for k := range 4 {
				next := func(step int) []int { return someLists[(i+step*k)%len(someLists)] }
				kinds, choice, b := next(1), next(2), next(5)
				x, y := all(c, kinds, choice, a, b), all(c, kinds, choice, a, b)
				for name := range x {
					if !x[name].same(y[name]) || x[name].e != api.OK && !x[name].isZero() {
						t.Errorf("%s of %v, %v, %v, %v, %v: %v, then %v", name, c, kinds, choice, a, b, x[name], y[name])
					}
				}
			}
		}
	}
}

// stretched returns an equal crew, which has a pair in the memory behind each kind and a kind behind the last one.
func stretched(c crew.Crew) crew.Crew {
	var kinds [][][2]int
	for _, l := range c.Kinds {
		kinds = append(kinds, append(slices.Clone(l), pairs("99")...)[:len(l)])
	}
	return crew.Crew{c.Sifters, append(kinds, pairs("99"))[:len(kinds)]}
}

// whole returns all that is in the memory of a stretched crew.
func whole(c crew.Crew) [][2]int {
	var out [][2]int
	for _, l := range c.Kinds {
		out = append(out, l[:len(l)+1]...)
	}
	return append(out, c.Kinds[:len(c.Kinds)+1][len(c.Kinds)]...)
}

// R4: what a caller does with a result changes nothing else, and arguments stay as they are.
func TestMemory(t *testing.T) {
	found := map[string]int{}
	for _, original := range []crew.Crew{crewA(), crewB(), crewD()} {
		c := stretched(original)
		kinds, choice, a, b := list(0, 2, 9), list(0, 0, 0, 9), list(2, 9, 9), list(0, 1, 9)
		for round := range 2 {
			for name, r := range all(c, kinds[:2], choice[:3], a[:1], b[:2]) {
				want := all(original, list(0, 2), list(0, 0, 0), list(2), list(0, 1))[name]
				if !r.same(want) {
					t.Errorf("%s of %v, call %d: %v, want %v", name, original, round+1, r, want)
				}
				for i := range r.l[:cap(r.l)] {
					r.l[:cap(r.l)][i] = -1
					found[name]++
				}
			}
		}
		if !slices.Equal(whole(c), whole(stretched(original))) {
			t.Errorf("%v was changed: %v", original, whole(c))
		}
		if !slices.Equal(slices.Concat(kinds, choice, a, b), list(0, 2, 9, 0, 0, 0, 9, 2, 9, 9, 0, 1, 9)) {
			t.Errorf("an argument was changed: %v %v %v %v", kinds, choice, a, b)
		}
	}
	if len(found) != 4 {
		t.Errorf("not all lists came: %v", found)
	}
}
