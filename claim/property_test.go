package claim_test

import (
	"iter"
	"slices"
	"testing"

	"breeze/api"
	"breeze/claim"
)

// samples yields worths and claims: all worths of short lists of small claims, and some worths of
// lists up to the limits.
func samples() iter.Seq2[int, []int] {
	return func(yield func(int, []int) bool) {
		for _, claims := range sampleClaims() {
			sum := total(claims)
			step := 1
			if sum > 60 {
				step = sum/23 + 1
			}
			for worth := 0; worth < sum; worth += step {
				if !yield(worth, claims) {
					return
				}
			}
			// about half of the sum the rule changes
			for _, worth := range []int{sum / 2, (sum + 1) / 2, sum/2 + 1, sum - 1, sum} {
				if worth <= sum && !yield(worth, claims) {
					return
				}
			}
		}
	}
}

func sampleClaims() [][]int {
	var out [][]int
	small := list(1, 2, 3, 5)
	for _, a := range small {
		out = append(out, list(a))
		for _, b := range small {
			out = append(out, list(a, b))
			for _, c := range small {
				out = append(out, list(a, b, c))
			}
		}
	}
	out = append(out, three(), list(1000), list(1000, 1), list(1000, 1000, 1000, 1000, 1000), list(1, 1, 1, 1, 1),
		list(1, 2, 3, 4, 5), list(5, 4, 3, 2, 1), list(2, 7, 2, 7), list(1, 1, 1, 1000), list(1, 1000, 999, 2, 500))
	seed := uint32(14)
	for range 60 {
		claims := make([]int, 3+seed%3)
		for i := range claims {
			seed = seed*1664525 + 1013904223
			claims[i] = 1 + int(seed>>8)%1000
		}
		out = append(out, claims)
	}
	return out
}

func total(l []int) int {
	sum := 0
	for _, n := range l {
		sum += n
	}
	return sum
}

// all are the functions that divide by claims alone.
func all() map[string]divider {
	return map[string]divider{"Divide": claim.Divide, "Gains": claim.Gains, "Losses": claim.Losses, "Average": claim.Average}
}

// some are those of all with these names.
func some(names ...string) map[string]divider {
	out := map[string]divider{}
	for _, n := range names {
		out[n] = all()[n]
	}
	return out
}

// orders returns all orders of so many houses.
func orders(many int) [][]int {
	out := [][]int{nil}
	for range many {
		var longer [][]int
		for _, o := range out {
			for i := range many {
				if !slices.Contains(o, i) {
					longer = append(longer, append(slices.Clone(o), i))
				}
			}
		}
		out = longer
	}
	return out
}

// losses returns what houses lose.
func losses(claims, gets []int) []int {
	out := make([]int, len(claims))
	for i, c := range claims {
		out[i] = c*claim.Parts - gets[i]
	}
	return out
}

// alike says whether all have the same, but none more than so many parts of each penny it claims.
func alike(claims, has []int, parts int) bool {
	same := slices.Max(has)
	for i, c := range claims {
		if has[i] != min(same, c*parts) {
			return false
		}
	}
	return true
}

// P1.3, by the definitions.
func TestRules(t *testing.T) {
	for worth, claims := range samples() {
		divide := must(t, claim.Divide, worth, claims)
		if 2*worth <= total(claims) {
			if !alike(claims, divide, claim.Parts/2) {
				t.Errorf("Divide of %d with %v: %v: some get less than others", worth, claims, divide)
			}
		} else if !alike(claims, losses(claims, divide), claim.Parts/2) {
			t.Errorf("Divide of %d with %v: %v: some lose less than others", worth, claims, divide)
		}
		if l := must(t, claim.Gains, worth, claims); !alike(claims, l, claim.Parts) {
			t.Errorf("Gains of %d with %v: %v", worth, claims, l)
		}
		if l := must(t, claim.Losses, worth, claims); !alike(claims, losses(claims, l), claim.Parts) {
			t.Errorf("Losses of %d with %v: %v", worth, claims, l)
		}
	}
}

// P1.4, by the definitions.
func TestAverageOfOrders(t *testing.T) {
	for worth, claims := range samples() {
		sums := make([]int, len(claims))
		every := orders(len(claims))
		for _, order := range every {
			l, e := claim.Order(worth, claims, order)
			if e != api.OK {
				t.Fatalf("Order %v of %d with %v: error %d", order, worth, claims, e)
			}
			left := worth * claim.Parts
			for _, i := range order {
				if l[i] != min(left, claims[i]*claim.Parts) {
					t.Fatalf("Order %v of %d with %v: %v", order, worth, claims, l)
				}
				left -= l[i]
				sums[i] += l[i]
			}
		}
		for i, g := range must(t, claim.Average, worth, claims) {
			if g*len(every) != sums[i] {
				t.Errorf("Average of %d with %v: house %d gets %d, in all orders %d", worth, claims, i, g, sums[i])
			}
		}
	}
}

// P1.5: what the functions return are divisions.
func TestAllAreDivisions(t *testing.T) {
	for worth, claims := range samples() {
		for name, f := range all() {
			l := must(t, f, worth, claims)
			if e := claim.Valid(worth, claims, l); e != api.OK {
				t.Errorf("%s of %d with %v: %v: error %d", name, worth, claims, l, e)
			}
		}
	}
}

// P1.6: the houses that Why returns are the first ones that Proves accepts.
func TestWhyAndProves(t *testing.T) {
	for worth, claims := range samples() {
		for name, f := range all() {
			l := must(t, f, worth, claims)
			wantI, wantJ, want := firstProof(worth, claims, l)
			if i, j, e := claim.Why(worth, claims, l); i != wantI || j != wantJ || e != want {
				t.Errorf("Why of %d with %v, by %s: %d %d %d, want %d %d %d", worth, claims, name, i, j, e, wantI, wantJ, want)
			}
		}
	}
}

func firstProof(worth int, claims, gets []int) (int, int, api.Errno) {
	for i := range claims {
		for j := i + 1; j < len(claims); j++ {
			e := claim.Proves(worth, claims, gets, i, j)
			if e != claim.Proves(worth, claims, gets, j, i) {
				return -1, -1, e
			}
			if e == api.OK {
				return i, j, e
			}
		}
	}
	return 0, 0, api.ErrClash
}

// P1.7: by the rule any two houses are at one. A shift of some parts from one house to another one
// is another division, and has two that are not.
func TestTwoByTwo(t *testing.T) {
	for worth, claims := range samples() {
		l := must(t, claim.Divide, worth, claims)
		if i, j, e := claim.Why(worth, claims, l); i != 0 || j != 0 || e != api.ErrClash {
			t.Errorf("Why of %d with %v, by the rule: %d %d %d", worth, claims, i, j, e)
		}
		for i := range claims {
			for j := range claims {
				for _, parts := range list(1, 2, 59, 60, 119, 120, 121, 6000) {
					other := slices.Clone(l)
					other[i] += parts
					other[j] -= parts
					if i == j || claim.Valid(worth, claims, other) != api.OK {
						continue
					}
					if a, b, e := claim.Why(worth, claims, other); e != api.OK || claim.Proves(worth, claims, other, a, b) != api.OK {
						t.Errorf("Why of %d with %v, %v: %d %d %d", worth, claims, other, a, b, e)
					}
				}
			}
		}
	}
}

// divisions yields all divisions of a worth among three houses.
func divisions(worth int, claims []int) iter.Seq[[]int] {
	return func(yield func([]int) bool) {
		for a := 0; a <= claims[0]*claim.Parts; a++ {
			for b := 0; b <= claims[1]*claim.Parts; b++ {
				c := worth*claim.Parts - a - b
				if c >= 0 && c <= claims[2]*claim.Parts && !yield(list(a, b, c)) {
					return
				}
			}
		}
	}
}

// P1.7 and P1.10, with all divisions of small claims.
func TestNoOtherDivision(t *testing.T) {
	for _, claims := range [][]int{{1, 1, 1}, {1, 2, 2}, {2, 1, 3}} {
		for worth := 0; worth <= total(claims); worth++ {
			rule := must(t, claim.Divide, worth, claims)
			least := slices.Min(must(t, claim.Gains, worth, claims))
			most := slices.Max(losses(claims, must(t, claim.Losses, worth, claims)))
			found := 0
			for l := range divisions(worth, claims) {
				if _, _, e := claim.Why(worth, claims, l); e == api.ErrClash && slices.Equal(l, rule) {
					found++
				} else if e != api.OK {
					t.Fatalf("Why of %d with %v, %v: %d, the rule has %v", worth, claims, l, e, rule)
				}
				if slices.Min(l) > least {
					t.Fatalf("%v of %d with %v: all get more than %d", l, worth, claims, least)
				}
				if slices.Max(losses(claims, l)) < most {
					t.Fatalf("%v of %d with %v: all lose less than %d", l, worth, claims, most)
				}
			}
			if found != 1 {
				t.Fatalf("%d with %v: the rule's %v was found %d times", worth, claims, rule, found)
			}
		}
	}
}

// P1.8
func TestGainsAndLosses(t *testing.T) {
	for worth, claims := range samples() {
		rest := total(claims) - worth
		for name, pair := range map[string][2]divider{
			"the rule":     {claim.Divide, claim.Divide},
			"the average":  {claim.Average, claim.Average},
			"gains first":  {claim.Gains, claim.Losses},
			"losses first": {claim.Losses, claim.Gains},
		} {
			a := must(t, pair[0], worth, claims)
			b := must(t, pair[1], rest, claims)
			if !slices.Equal(losses(claims, a), b) {
				t.Errorf("%s: %d with %v is %v, %d is %v", name, worth, claims, a, rest, b)
			}
		}
	}
}

// P1.9: greater claims do not get less, and do not lose less.
func TestGreaterClaims(t *testing.T) {
	for worth, claims := range samples() {
		for name, f := range all() {
			gets := must(t, f, worth, claims)
			lost := losses(claims, gets)
			for i := range claims {
				for j := range claims {
					if claims[i] >= claims[j] && (gets[i] < gets[j] || lost[i] < lost[j]) {
						t.Errorf("%s of %d with %v: %v: %d and %d", name, worth, claims, gets, i, j)
					}
				}
			}
		}
	}
}

// P1.9: what houses get goes with them.
func TestOtherOrderOfHouses(t *testing.T) {
	for worth, claims := range samples() {
		for k, order := range orders(len(claims)) {
			if len(claims) > 3 && k%7 != 3 {
				continue
			}
			moved := make([]int, len(claims))
			for i, from := range order {
				moved[i] = claims[from]
			}
			for name, f := range all() {
				gets := must(t, f, worth, claims)
				for i, g := range must(t, f, worth, moved) {
					if g != gets[order[i]] {
						t.Errorf("%s of %d with %v: %v, but house %d of %v gets %d", name, worth, claims, gets, i, moved, g)
					}
				}
			}
		}
	}
}

// P1.11
func TestTwoHouses(t *testing.T) {
	for _, x := range [][2]int{{1, 1}, {1, 2}, {5, 3}, {100, 50}, {1, 1000}, {999, 1000}} {
		a, b := x[0], x[1]
		for worth := 0; worth <= a+b; worth++ {
			first, second, e := claim.Two(worth, a, b)
			if e != api.OK {
				t.Fatalf("Two of %d with %d, %d: error %d", worth, a, b, e)
			}
			for name, f := range some("Divide", "Average") {
				if l := must(t, f, worth, list(a, b)); !slices.Equal(l, list(first, second)) {
					t.Errorf("%s of %d with %d, %d: %v, of two %d and %d", name, worth, a, b, l, first, second)
				}
			}
		}
	}
}

// P1.12
func TestMoreWorth(t *testing.T) {
	for worth, claims := range samples() {
		if worth == total(claims) {
			continue
		}
		for name, f := range all() {
			noLess(t, name, claims, must(t, f, worth, claims), must(t, f, worth+1, claims))
		}
		for _, order := range orders(len(claims)) {
			a, _ := claim.Order(worth, claims, order)
			b, _ := claim.Order(worth+1, claims, order)
			noLess(t, "Order", claims, a, b)
		}
	}
}

func noLess(t *testing.T, name string, claims, a, b []int) {
	t.Helper()
	if len(a) != len(claims) || len(b) != len(claims) {
		t.Fatalf("%s with %v: %v, %v", name, claims, a, b)
	}
	for i := range claims {
		if b[i] < a[i] {
			t.Errorf("%s with %v: %v, and of a penny more %v", name, claims, a, b)
		}
	}
}

// P1.12
func TestHalf(t *testing.T) {
	for _, claims := range sampleClaims() {
		sum := total(claims)
		if sum%2 != 0 {
			continue
		}
		for name, f := range some("Divide", "Average") {
			for i, g := range must(t, f, sum/2, claims) {
				if g != claims[i]*claim.Parts/2 {
					t.Errorf("%s of half of %v: house %d gets %d", name, claims, i, g)
				}
			}
		}
	}
}
