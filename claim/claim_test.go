package claim_test

import (
	"math"
	"slices"
	"testing"

	"breeze/api"
	"breeze/claim"
)

func list(l ...int) []int { return l }

// three are the claims C of the chapter's examples.
func three() []int { return list(100, 200, 300) }

// divider is one of the functions that divide a worth by claims alone.
type divider func(int, []int) ([]int, api.Errno)

// must returns a division that may not be refused.
func must(t *testing.T, f divider, worth int, claims []int) []int {
	t.Helper()
	l, e := f(worth, claims)
	if e != api.OK {
		t.Fatalf("%d of %v: error %d", worth, claims, e)
	}
	return l
}

// P1.1

var checks = []struct {
	name   string
	worth  int
	claims []int
	want   api.Errno
}{
	{"three houses", 200, three(), api.OK},
	{"one house", 1, list(1), api.OK},
	{"no worth", 0, three(), api.OK},
	{"all that is claimed", 600, three(), api.OK},
	{"most houses, greatest claims", 5000, list(1000, 1000, 1000, 1000, 1000), api.OK},
	{"nil", 1, nil, api.ErrEmpty},
	{"empty", -1, []int{}, api.ErrEmpty},
	{"six", 1, list(1, 1, 1, 1, 1, 1), api.ErrMany},
	{"six, all wrong", -1, list(0, 0, 0, 0, 0, 0), api.ErrMany},
	{"claim 0", 0, list(0), api.ErrRange},
	{"last claim 0", 1, list(5, 0), api.ErrRange},
	{"claim below 0", 1, list(5, -1), api.ErrRange},
	{"claim 1001", 1, list(1001), api.ErrRange},
	{"worth above the sum", 301, list(100, 200), api.ErrRange},
	{"worth below 0", -1, list(100, 200), api.ErrRange},
	{"greatest worth", math.MaxInt, three(), api.ErrRange},
	{"least worth", math.MinInt, three(), api.ErrRange},
	{"claims whose sum leaves an int", 1, list(math.MaxInt, math.MaxInt), api.ErrRange},
	{"least claim", 1, list(math.MinInt, math.MinInt), api.ErrRange},
}

func TestCheck(t *testing.T) {
	for _, x := range checks {
		if e := claim.Check(x.worth, x.claims); e != x.want {
			t.Errorf("%s: %d, want %d", x.name, e, x.want)
		}
	}
}

// All functions with claims return Check's error before any of their own.
func TestCheckComesFirst(t *testing.T) {
	for _, x := range checks {
		if x.want == api.OK {
			continue
		}
		bad := list(-1, 7)
		lists := map[string]divider{
			"Divide": claim.Divide, "Gains": claim.Gains, "Losses": claim.Losses, "Average": claim.Average,
			"Order": func(w int, c []int) ([]int, api.Errno) { return claim.Order(w, c, bad) },
		}
		for name, f := range lists {
			if l, e := f(x.worth, x.claims); len(l) != 0 || e != x.want {
				t.Errorf("%s of %s: %v %d, want %d", name, x.name, l, e, x.want)
			}
		}
		if e := claim.Valid(x.worth, x.claims, bad); e != x.want {
			t.Errorf("Valid of %s: %d, want %d", x.name, e, x.want)
		}
		if i, j, e := claim.Why(x.worth, x.claims, bad); i != 0 || j != 0 || e != x.want {
			t.Errorf("Why of %s: %d %d %d, want %d", x.name, i, j, e, x.want)
		}
		if e := claim.Proves(x.worth, x.claims, bad, -1, -1); e != x.want {
			t.Errorf("Proves of %s: %d, want %d", x.name, e, x.want)
		}
	}
}

// P1.2

func TestTwo(t *testing.T) {
	for _, x := range []struct {
		worth, a, b, first, second int
		e                          api.Errno
	}{
		{100, 100, 50, 9000, 3000, api.OK},
		{30, 100, 50, 1800, 1800, api.OK},
		{75, 50, 100, 3000, 6000, api.OK},
		{120, 50, 100, 4200, 10200, api.OK},
		{150, 100, 50, 12000, 6000, api.OK},
		{0, 100, 50, 0, 0, api.OK},
		{1, 1, 1, 60, 60, api.OK},
		{2, 1, 1, 120, 120, api.OK},
		{1, 1, 1000, 60, 60, api.OK},
		{1001, 1, 1000, 120, 120000, api.OK},
		{2000, 1000, 1000, 120000, 120000, api.OK},
		{151, 100, 50, 0, 0, api.ErrRange},
		{-1, 100, 50, 0, 0, api.ErrRange},
		{1, 0, 50, 0, 0, api.ErrRange},
		{1, 50, 0, 0, 0, api.ErrRange},
		{1, -5, 50, 0, 0, api.ErrRange},
		{1, 1001, 50, 0, 0, api.ErrRange},
		{1, 50, 1001, 0, 0, api.ErrRange},
		{1, math.MaxInt, math.MaxInt, 0, 0, api.ErrRange},
		{math.MaxInt, 50, 50, 0, 0, api.ErrRange},
		{math.MinInt, math.MinInt, 50, 0, 0, api.ErrRange},
	} {
		a, b, e := claim.Two(x.worth, x.a, x.b)
		if a != x.first || b != x.second || e != x.e {
			t.Errorf("%d with %d, %d: %d %d %d", x.worth, x.a, x.b, a, b, e)
		}
	}
}

// P1.3 and P1.4

func TestDivisions(t *testing.T) {
	for _, x := range []struct {
		worth                          int
		claims                         []int
		divide, gains, losses, average []int
	}{
		{100, three(), list(4000, 4000, 4000), list(4000, 4000, 4000), list(0, 0, 12000), list(4000, 4000, 4000)},
		{200, three(), list(6000, 9000, 9000), list(8000, 8000, 8000), list(0, 6000, 18000), list(4000, 10000, 10000)},
		{300, three(), list(6000, 12000, 18000), list(12000, 12000, 12000), list(0, 12000, 24000), list(6000, 12000, 18000)},
		{500, three(), list(8000, 20000, 32000), list(12000, 24000, 24000), list(8000, 20000, 32000), list(8000, 20000, 32000)},
		{600, three(), list(12000, 24000, 36000), list(12000, 24000, 36000), list(12000, 24000, 36000), list(12000, 24000, 36000)},
		{0, three(), list(0, 0, 0), list(0, 0, 0), list(0, 0, 0), list(0, 0, 0)},
		{7, list(7), list(840), list(840), list(840), list(840)},
		{3, list(7), list(360), list(360), list(360), list(360)},
		{3, list(1, 2, 2, 2, 2), list(60, 75, 75, 75, 75), list(72, 72, 72, 72, 72), list(0, 90, 90, 90, 90), list(48, 78, 78, 78, 78)},
		{1, list(3, 1, 2), list(40, 40, 40), list(40, 40, 40), list(120, 0, 0), list(40, 40, 40)},
		// a penny more than half, and houses that do not come in the order of their claims
		{301, list(300, 200, 100), list(18120, 12000, 6000), list(12060, 12060, 12000), list(24040, 12040, 40), list(18080, 12020, 6020)},
	} {
		for name, y := range map[string]struct {
			f    divider
			want []int
		}{"Divide": {claim.Divide, x.divide}, "Gains": {claim.Gains, x.gains}, "Losses": {claim.Losses, x.losses}, "Average": {claim.Average, x.average}} {
			if l := must(t, y.f, x.worth, x.claims); !slices.Equal(l, y.want) {
				t.Errorf("%s of %d with %v: %v, want %v", name, x.worth, x.claims, l, y.want)
			}
		}
	}
}

func TestOrder(t *testing.T) {
	for _, x := range []struct {
		order, want []int
		e           api.Errno
	}{
		{list(2, 0, 1), list(0, 0, 24000), api.OK},
		{list(0, 1, 2), list(12000, 12000, 0), api.OK},
		{list(1, 2, 0), list(0, 24000, 0), api.OK},
		{list(0, 2, 1), list(12000, 0, 12000), api.OK},
		{nil, nil, api.ErrShape},
		{list(0, 1), nil, api.ErrShape},
		{list(0, 0), nil, api.ErrShape},
		{list(0, 1, 2, 3), nil, api.ErrShape},
		{list(0, 0, 1), nil, api.ErrTwice},
		{list(0, 1, 3), nil, api.ErrNone},
		{list(-1, 0, 0), nil, api.ErrNone},
		{list(0, 0, 3), nil, api.ErrTwice},
		{list(0, 3, 0), nil, api.ErrNone},
		{list(3, 3, 3), nil, api.ErrNone},
		{list(0, math.MaxInt, 1), nil, api.ErrNone},
		{list(math.MinInt, 0, 1), nil, api.ErrNone},
	} {
		if l, e := claim.Order(200, three(), x.order); !slices.Equal(l, x.want) || e != x.e {
			t.Errorf("Order %v: %v %d, want %v %d", x.order, l, e, x.want, x.e)
		}
	}
}

// P1.5

func TestValid(t *testing.T) {
	for _, x := range []struct {
		gets []int
		want api.Errno
	}{
		{list(4000, 10000, 10000), api.OK},
		{list(12000, 0, 12000), api.OK},
		{list(0, 24000, 0), api.OK},
		{list(1, 2, 23997), api.OK},
		{nil, api.ErrShape},
		{list(1, 2), api.ErrShape},
		{list(4000, 10000, 10000, 0), api.ErrShape},
		{list(-1, -1), api.ErrShape},
		{list(12001, 0, 11999), api.ErrRange},
		{list(-1, 12001, 12000), api.ErrRange},
		{list(0, 0, 36001), api.ErrRange},
		{list(math.MaxInt, math.MaxInt, 24002), api.ErrRange},
		{list(0, 0, math.MinInt), api.ErrRange},
		{list(4000, 10000, 9999), api.ErrSum},
		{list(4000, 10000, 10001), api.ErrSum},
		{list(0, 0, 0), api.ErrSum},
	} {
		if e := claim.Valid(200, three(), x.gets); e != x.want {
			t.Errorf("Valid of %v: %d, want %d", x.gets, e, x.want)
		}
	}
}

// P1.6

func TestWhy(t *testing.T) {
	for _, x := range []struct {
		gets []int
		i, j int
		e    api.Errno
	}{
		{list(4000, 10000, 10000), 0, 1, api.OK},
		{list(8000, 8000, 8000), 0, 1, api.OK},
		{list(0, 6000, 18000), 0, 1, api.OK},
		{list(6000, 10000, 8000), 1, 2, api.OK},
		// 18000 parts would be halved; a single part more or less is not at one
		{list(6000, 9001, 8999), 1, 2, api.OK},
		{list(6000, 9000, 9000), 0, 0, api.ErrClash},
		{list(1, 2), 0, 0, api.ErrShape},
		{list(12001, 0, 11999), 0, 0, api.ErrRange},
		{list(4000, 10000, 9999), 0, 0, api.ErrSum},
	} {
		if i, j, e := claim.Why(200, three(), x.gets); i != x.i || j != x.j || e != x.e {
			t.Errorf("Why of %v: %d %d %d, want %d %d %d", x.gets, i, j, e, x.i, x.j, x.e)
		}
	}
}

func TestWhyFirst(t *testing.T) {
	for _, x := range []struct {
		worth        int
		claims, gets []int
		i, j         int
		e            api.Errno
	}{
		// 0 and 1 are at one, 0 and 2 are not
		{3, list(2, 2, 4), list(60, 60, 240), 0, 2, api.OK},
		// the first three are at one, and the first with the last one is not
		{4, list(2, 2, 2, 4), list(60, 60, 60, 300), 0, 3, api.OK},
		// an odd number of parts cannot be halved, whoever gets the part more
		{1, list(1, 1, 1), list(39, 40, 41), 0, 1, api.OK},
		{1, list(1, 1, 1), list(40, 39, 41), 0, 1, api.OK},
		// one house has nobody to be compared with
		{3, list(7), list(360), 0, 0, api.ErrClash},
	} {
		if i, j, e := claim.Why(x.worth, x.claims, x.gets); i != x.i || j != x.j || e != x.e {
			t.Errorf("Why of %d with %v, %v: %d %d %d, want %d %d %d", x.worth, x.claims, x.gets, i, j, e, x.i, x.j, x.e)
		}
	}
}

func TestProves(t *testing.T) {
	for _, x := range []struct {
		i, j int
		want api.Errno
	}{
		{0, 1, api.OK},
		{1, 0, api.OK},
		{0, 2, api.OK},
		{1, 2, api.ErrProof},
		{2, 1, api.ErrProof},
		{1, 1, api.ErrTwice},
		{0, 3, api.ErrNone},
		{3, 0, api.ErrNone},
		{-1, 0, api.ErrNone},
		{0, -1, api.ErrNone},
		{3, 3, api.ErrNone},
		{math.MinInt, math.MaxInt, api.ErrNone},
	} {
		if e := claim.Proves(200, three(), list(4000, 10000, 10000), x.i, x.j); e != x.want {
			t.Errorf("Proves %d %d: %d, want %d", x.i, x.j, e, x.want)
		}
	}
	for _, x := range []struct {
		gets []int
		want api.Errno
	}{{list(1, 2), api.ErrShape}, {list(12001, 0, 11999), api.ErrRange}, {list(4000, 10000, 9999), api.ErrSum}} {
		if e := claim.Proves(200, three(), x.gets, -1, 3); e != x.want {
			t.Errorf("Proves of %v: %d, want %d", x.gets, e, x.want)
		}
	}
}

// P1: each function ends, does not panic, and returns the same for the same arguments.
func TestAllArguments(t *testing.T) {
	numbers := list(math.MinInt, -1, 0, 1, 1000, 1001, math.MaxInt)
	lists := [][]int{nil, {}, {1}, {0}, {1, 1}, {1000, 1}, {math.MaxInt, math.MaxInt}, {math.MinInt, -1}, make([]int, 6), make([]int, 1000)}
	for _, w := range numbers {
		for _, a := range lists {
			for _, f := range []divider{claim.Divide, claim.Gains, claim.Losses, claim.Average} {
				l, e := f(w, a)
				m, g := f(w, a)
				if !slices.Equal(l, m) || e != g || e != claim.Check(w, a) || e != api.OK && len(l) > 0 {
					t.Fatalf("%d of %v: %v %d, then %v %d", w, a, l, e, m, g)
				}
			}
			for _, b := range lists {
				if l, e := claim.Order(w, a, b); e != api.OK && len(l) > 0 {
					t.Fatalf("Order %d of %v by %v: %v %d", w, a, b, l, e)
				}
				claim.Valid(w, a, b)
				if i, j, e := claim.Why(w, a, b); e != api.OK && (i != 0 || j != 0) {
					t.Fatalf("Why %d of %v, %v: %d %d %d", w, a, b, i, j, e)
				}
				for _, i := range numbers {
					claim.Proves(w, a, b, i, w)
				}
			}
			for _, b := range numbers {
				if x, y, e := claim.Two(w, b, len(a)); e != api.OK && (x != 0 || y != 0) {
					t.Fatalf("Two %d of %d, %d: %d %d %d", w, b, len(a), x, y, e)
				}
			}
		}
	}
}

// R4: arguments are not changed, and what a caller does with a result changes nothing else.
func TestMemory(t *testing.T) {
	order := list(2, 0, 1)
	for name, f := range map[string]divider{
		"Divide": claim.Divide, "Gains": claim.Gains, "Losses": claim.Losses, "Average": claim.Average,
		"Order": func(w int, c []int) ([]int, api.Errno) { return claim.Order(w, c, order) },
	} {
		claims := list(300, 100, 200)
		first := must(t, f, 500, claims)
		want := slices.Clone(first)
		for i := range first {
			first[i] = -1
		}
		if second := must(t, f, 500, claims); !slices.Equal(second, want) {
			t.Errorf("%s: %v after its result was changed, want %v", name, second, want)
		}
		if !slices.Equal(claims, list(300, 100, 200)) || !slices.Equal(order, list(2, 0, 1)) {
			t.Errorf("%s changed an argument: %v %v", name, claims, order)
		}
	}
	claims, gets := list(300, 100, 200), list(18000, 0, 6000)
	claim.Valid(200, claims, gets)
	claim.Why(200, claims, gets)
	claim.Proves(200, claims, gets, 0, 1)
	if !slices.Equal(claims, list(300, 100, 200)) || !slices.Equal(gets, list(18000, 0, 6000)) {
		t.Errorf("an argument was changed: %v %v", claims, gets)
	}
}
