package week_test

import (
	"iter"
	"math/rand/v2"
	"slices"
	"testing"

	"breeze/api"
	"breeze/week"
)

// factorial is how many orders of many numbers there are.
func factorial(many int) int {
	if many == 0 {
		return 1
	}
	return many * factorial(many-1)
}

// rowsOf returns all rows, in ascending order.
func rowsOf(streets int) [][]int {
	var out [][]int
	var add func(row []int)
	add = func(row []int) {
		if len(row) == streets {
			out = append(out, slices.Clone(row))
			return
		}
		for i := range streets {
			if !slices.Contains(row, i) {
				add(append(row, i))
			}
		}
	}
	add(nil)
	return out
}

// meet tells whether two carts are in one street on a day on which both are planned.
func meet(a, b []int) bool {
	for day := range min(len(a), len(b)) {
		if a[day] == b[day] {
			return true
		}
	}
	return false
}

// ways yields, in ascending order, all plans of many carts of which the first ones begin as the
// lists of a corner do.
func ways(streets, many int, corner [][]int) iter.Seq[[][]int] {
	all := rowsOf(streets)
	return func(yield func([][]int) bool) {
		var add func(plan [][]int) bool
		add = func(plan [][]int) bool {
			if len(plan) == many {
				return yield(cloned(plan))
			}
			for _, row := range all {
				cart := len(plan)
				if cart < len(corner) && !slices.Equal(row[:len(corner[cart])], corner[cart]) {
					continue
				}
				if !slices.ContainsFunc(plan, func(l []int) bool { return meet(l, row) }) && !add(append(plan, row)) {
					return false
				}
			}
			return true
		}
		add(nil)
	}
}

// first returns the first full plan of a corner.
func first(streets int, corner [][]int) ([][]int, bool) {
	for plan := range ways(streets, streets, corner) {
		return plan, true
	}
	return nil, false
}

// rolled changes the numbers of streets, the days and the carts of a full plan.
func rolled(plan [][]int, r *rand.Rand) [][]int {
	n := len(plan)
	return exchanged(plan, r.Perm(n), r.Perm(n), r.Perm(n))
}

// exchanged gives street s the number names[s], and lets the carts and days come in another order.
func exchanged(lists [][]int, names, days, carts []int) [][]int {
	var out [][]int
	for _, cart := range carts {
		var l []int
		for _, day := range days {
			l = append(l, names[lists[cart][day]])
		}
		out = append(out, l)
	}
	return out
}

type sample struct {
	streets int
	plan    [][]int
}

// plans returns all plans of up to 4 streets, and some of 5.
func plans() []sample {
	var out []sample
	for n := 1; n <= 4; n++ {
		for many := range n + 1 {
			for plan := range ways(n, many, nil) {
				out = append(out, sample{n, plan})
			}
		}
	}
	r := rand.New(rand.NewPCG(3, 1))
	for _, full := range [][][]int{round(5), five()} {
		for range 60 {
			l := rolled(full, r)
			for many := range 6 {
				out = append(out, sample{5, cloned(l[:many])})
			}
		}
	}
	return out
}

// small returns all corners of up to 4 streets.
func small() []sample {
	var out []sample
	for n := 1; n <= 4; n++ {
		for numbers := range n + 1 {
			for many := range n + 1 {
				var add func(corner [][]int, l []int)
				add = func(corner [][]int, l []int) {
					if len(corner) == many {
						out = append(out, sample{n, cloned(corner)})
						return
					}
					if len(l) == numbers {
						add(append(corner, slices.Clone(l)), nil)
						return
					}
					for i := range n {
						if !slices.Contains(l, i) && !slices.ContainsFunc(corner, func(x []int) bool { return x[len(l)] == i }) {
							add(corner, append(slices.Clone(l), i))
						}
					}
				}
				add(nil, nil)
			}
		}
	}
	return out
}

// mixed returns some corners of 5 streets, of each shape: begun at random, and cut out of plans.
func mixed(many int) []sample {
	r := rand.New(rand.NewPCG(3, 2))
	var out []sample
	for numbers := range 6 {
		for carts := range 6 {
			for range many {
				out = append(out, sample{5, begun(carts, numbers, r)})
				var cut [][]int
				for _, row := range rolled(five(), r)[:carts] {
					cut = append(cut, row[:numbers])
				}
				out = append(out, sample{5, cut})
			}
		}
	}
	return out
}

// begun returns a corner of 5 streets. It begins anew when it cannot go on.
func begun(carts, numbers int, r *rand.Rand) [][]int {
	for {
		var corner [][]int
		for range carts {
			for range 200 {
				l := r.Perm(5)[:numbers]
				if !slices.ContainsFunc(corner, func(x []int) bool { return meet(x, l) }) {
					corner = append(corner, l)
					break
				}
			}
		}
		if len(corner) == carts {
			return corner
		}
	}
}

func cornersOf() []sample { return slices.Concat(small(), mixed(12)) }

// P3.1, by the definition: each list of up to two rows of numbers from -1 to 3, of three streets.
func TestAllLists(t *testing.T) {
	var rows [][]int
	for _, a := range list(-1, 0, 1, 2, 3) {
		for _, b := range list(-1, 0, 1, 2, 3) {
			for _, c := range list(-1, 0, 1, 2, 3) {
				rows = append(rows, list(a, b, c))
			}
		}
	}
	found := map[api.Errno]int{}
	for _, a := range rows {
		for _, b := range rows {
			want := firstError(3, lists(a, b))
			found[want]++
			if e := week.Check(3, lists(a, b)); e != want {
				t.Errorf("Check of %v, %v: %d, want %d", a, b, e, want)
			}
			if e := week.Corner(3, lists(a, b)); e != want {
				t.Errorf("Corner of %v, %v: %d, want %d", a, b, e, want)
			}
			a, b := a[:2], b[:2]
			if e, want := week.Corner(3, lists(a, b)), firstError(3, lists(a, b)); e != want {
				t.Errorf("Corner of %v, %v: %d, want %d", a, b, e, want)
			}
		}
	}
	if len(found) != 4 || found[api.OK] != 12 {
		t.Errorf("%v", found)
	}
}

// firstError is the error of the numbers in lists that are all as long.
func firstError(streets int, all [][]int) api.Errno {
	for cart, l := range all {
		for day, s := range l {
			if s < 0 || s >= streets {
				return api.ErrNone
			}
			for _, before := range l[:day] {
				if before == s {
					return api.ErrTwice
				}
			}
			for _, before := range all[:cart] {
				if before[day] == s {
					return api.ErrClash
				}
			}
		}
	}
	return api.OK
}

// P3.1: all plans are accepted.
func TestPlansAreAccepted(t *testing.T) {
	for _, x := range plans() {
		if e := week.Check(x.streets, x.plan); e != api.OK {
			t.Errorf("Check of %v: %d", x.plan, e)
		}
	}
}

// P3.2 and P3.12, by the definition.
func TestFreeStreets(t *testing.T) {
	for _, x := range plans() {
		want := make([][]int, x.streets)
		for day := range want {
			for i := range x.streets {
				if !slices.ContainsFunc(x.plan, func(row []int) bool { return row[day] == i }) {
					want[day] = append(want[day], i)
				}
			}
		}
		free := must(week.Free(x.streets, x.plan))
		if !sameLists(free, want) {
			t.Errorf("Free of %v: %v, want %v", x.plan, free, want)
		}
		for i := range x.streets {
			days := 0
			for _, l := range free {
				if slices.Contains(l, i) {
					days++
				}
			}
			if days != x.streets-len(x.plan) {
				t.Errorf("Free of %v: %v: street %d on %d days", x.plan, free, i, days)
			}
		}
	}
}

// P3.2 and P3.7, by the definition: a row fits if the plan with it behind the others is a plan.
func TestRowsThatFit(t *testing.T) {
	for _, x := range plans() {
		if len(x.plan) == x.streets {
			continue
		}
		var fit [][]int
		for _, row := range rowsOf(x.streets) {
			if week.Check(x.streets, append(cloned(x.plan), row)) == api.OK {
				fit = append(fit, row)
			}
		}
		if len(fit) < factorial(x.streets-len(x.plan)) {
			t.Errorf("%v: only %d rows fit", x.plan, len(fit))
			continue
		}
		if row := must(week.Next(x.streets, x.plan)); !slices.Equal(row, fit[0]) {
			t.Errorf("Next of %v: %v, want %v", x.plan, row, fit[0])
		}
		if n := must(week.Count(x.streets, x.plan)); n != len(fit) {
			t.Errorf("Count of %v: %d, want %d", x.plan, n, len(fit))
		}
	}
}

// P3.3 and P3.7: Full is the first full plan that begins so, and what Next leads to, row by row.
func TestFullPlans(t *testing.T) {
	for _, x := range plans() {
		full := must(week.Full(x.streets, x.plan))
		if want, ok := first(x.streets, x.plan); !ok || !sameLists(full, want) {
			t.Errorf("Full of %v: %v, want %v", x.plan, full, want)
		}
		led := cloned(x.plan)
		for len(led) < x.streets {
			led = append(led, must(week.Next(x.streets, led)))
		}
		if !sameLists(full, led) {
			t.Errorf("Full of %v: %v, but Next leads to %v", x.plan, full, led)
		}
	}
}

// P3.4: all corners are accepted.
func TestCornersAreAccepted(t *testing.T) {
	for _, x := range cornersOf() {
		if e := week.Corner(x.streets, x.plan); e != api.OK {
			t.Errorf("Corner of %v: %d", x.plan, e)
		}
	}
}

// barring returns the streets that bar a corner, by the definition.
func barring(streets int, corner [][]int) []int {
	numbers, often := 0, make([]int, streets)
	for _, l := range corner {
		numbers = len(l)
		for _, i := range l {
			often[i]++
		}
	}
	var out []int
	for i, n := range often {
		if len(corner)+numbers-n > streets {
			out = append(out, i)
		}
	}
	return out
}

// P3.5 and P3.8: a corner can be completed just if no street bars it; all by the definitions.
func TestCorners(t *testing.T) {
	found := map[bool]int{}
	for _, x := range cornersOf() {
		bars := barring(x.streets, x.plan)
		plan, ok := first(x.streets, x.plan)
		found[ok]++
		if ok != (len(bars) == 0) {
			t.Fatalf("%v: completed %v, barred by %v", x.plan, ok, bars)
		}
		fill, e := week.Fill(x.streets, x.plan)
		if ok && (e != api.OK || !sameLists(fill, plan)) || !ok && (e != api.ErrLost || len(fill) > 0) {
			t.Errorf("Fill of %v: %v %d, want %v %v", x.plan, fill, e, plan, ok)
		}
		why, e := week.Why(x.streets, x.plan)
		if ok && (why != 0 || e != api.ErrClash) || !ok && (e != api.OK || why != bars[0]) {
			t.Errorf("Why of %v: %d %d, but %v bar", x.plan, why, e, bars)
		}
		for i := range x.streets {
			want := api.ErrProof
			if slices.Contains(bars, i) {
				want = api.OK
			}
			if e := week.Proves(x.streets, x.plan, i); e != want {
				t.Errorf("Proves of %v: %d: %d, want %d", x.plan, i, e, want)
			}
		}
	}
	if found[true] < 1000 || found[false] < 100 {
		t.Errorf("too few corners: %v", found)
	}
}

// P3.8: a plan as a corner can be completed, and Fill then is Full.
func TestPlansAsCorners(t *testing.T) {
	for _, x := range plans() {
		if i, e := week.Why(x.streets, x.plan); i != 0 || e != api.ErrClash {
			t.Errorf("Why of %v: %d %d", x.plan, i, e)
		}
		fill, full := must(week.Fill(x.streets, x.plan)), must(week.Full(x.streets, x.plan))
		if !sameLists(fill, full) {
			t.Errorf("Fill of %v: %v, but Full %v", x.plan, fill, full)
		}
	}
}

// P3.3 and P3.9
func TestByStreets(t *testing.T) {
	for _, x := range plans() {
		turned := must(week.Turned(x.streets, x.plan))
		for cart, row := range x.plan {
			for day, street := range row {
				if turned[cart][street] != day {
					t.Errorf("Turned of %v: %v", x.plan, turned)
				}
			}
		}
		if e := week.Check(x.streets, turned); e != api.OK || len(turned) != len(x.plan) {
			t.Errorf("Turned of %v: %v: %d", x.plan, turned, e)
		}
		if back := must(week.Turned(x.streets, turned)); !sameLists(back, x.plan) {
			t.Errorf("Turned of %v, twice: %v", x.plan, back)
		}
		a, e := week.Count(x.streets, x.plan)
		if b, g := week.Count(x.streets, turned); a != b || e != g {
			t.Errorf("Count of %v: %d %d; by streets: %d %d", x.plan, a, e, b, g)
		}
	}
}

// P3.6, by the definition.
func TestCrossings(t *testing.T) {
	lost := 0
	for _, x := range plans() {
		if len(x.plan) < x.streets {
			continue
		}
		var want [][]int
		for _, days := range rowsOf(x.streets) {
			came := map[int]bool{}
			for cart, day := range days {
				came[x.plan[cart][day]] = true
			}
			if len(came) == x.streets {
				want = append(want, days)
			}
		}
		if n := must(week.Crosses(x.streets, x.plan)); n != len(want) {
			t.Errorf("Crosses of %v: %d, want %d", x.plan, n, len(want))
		}
		days, e := week.Cross(x.streets, x.plan)
		if len(want) == 0 {
			lost++
		}
		if len(want) == 0 && (e != api.ErrLost || len(days) > 0) || len(want) > 0 && (e != api.OK || !slices.Equal(days, want[0])) {
			t.Errorf("Cross of %v: %v %d, want the first of %v", x.plan, days, e, want)
		}
	}
	if lost < 400 {
		t.Errorf("only %d plans without a crossing", lost)
	}
}

// P3.6 and P3.10
func TestRoundPlans(t *testing.T) {
	for n, many := range list(0, 1, 0, 3, 0, 15) {
		if n == 0 {
			continue
		}
		plan := round(n)
		if e := week.Check(n, plan); e != api.OK || len(plan) != n {
			t.Errorf("Round of %d: %v: %d", n, plan, e)
		}
		for i, row := range plan {
			for j, street := range row {
				if street != i+j && street != i+j-n {
					t.Errorf("Round of %d: %v", n, plan)
				}
			}
		}
		if m := must(week.Crosses(n, plan)); m != many {
			t.Errorf("Crosses of %v: %d, want %d", plan, m, many)
		}
		want := api.OK
		if many == 0 {
			want = api.ErrLost
		}
		if _, e := week.Cross(n, plan); e != want {
			t.Errorf("Cross of %v: %d, want %d", plan, e, want)
		}
	}
}

// P3.11, of plans.
func TestNamesOfPlans(t *testing.T) {
	r := rand.New(rand.NewPCG(3, 3))
	for _, x := range plans() {
		other := exchanged(x.plan, r.Perm(x.streets), r.Perm(x.streets), r.Perm(len(x.plan)))
		a, e := week.Count(x.streets, x.plan)
		if b, g := week.Count(x.streets, other); a != b || e != g {
			t.Errorf("Count of %v: %d %d; of %v: %d %d", x.plan, a, e, other, b, g)
		}
		a, e = week.Crosses(x.streets, x.plan)
		if b, g := week.Crosses(x.streets, other); a != b || e != g {
			t.Errorf("Crosses of %v: %d %d; of %v: %d %d", x.plan, a, e, other, b, g)
		}
	}
}

// P3.11, of corners.
func TestNamesOfCorners(t *testing.T) {
	r := rand.New(rand.NewPCG(3, 4))
	for _, x := range cornersOf() {
		days := 0
		if len(x.plan) > 0 {
			days = len(x.plan[0])
		}
		names := r.Perm(x.streets)
		other := exchanged(x.plan, names, r.Perm(days), r.Perm(len(x.plan)))
		_, e := week.Fill(x.streets, x.plan)
		if _, g := week.Fill(x.streets, other); e != g {
			t.Errorf("Fill of %v: %d; of %v: %d", x.plan, e, other, g)
		}
		for i := range x.streets {
			if e, g := week.Proves(x.streets, x.plan, i), week.Proves(x.streets, other, names[i]); e != g {
				t.Errorf("Proves of %v: %d: %d; of %v: %d: %d", x.plan, i, e, other, names[i], g)
			}
		}
	}
}

// P3.12: the full plans that one comes to by rows that Check accepts.
func TestHowMany(t *testing.T) {
	for n, want := range list(0, 1, 2, 12, 576) {
		if n == 0 {
			continue
		}
		rows := rowsOf(n)
		var many func(plan [][]int) int
		many = func(plan [][]int) int {
			if len(plan) == n {
				return 1
			}
			sum := 0
			for _, row := range rows {
				if next := append(slices.Clone(plan), row); week.Check(n, next) == api.OK {
					sum += many(next)
				}
			}
			return sum
		}
		if got := many(nil); got != want {
			t.Errorf("%d full plans of %d streets, want %d", got, n, want)
		}
	}
}
