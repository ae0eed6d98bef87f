package burn_test

import (
	"maps"
	"math/rand/v2"
	"slices"
	"strconv"
	"testing"

	"breeze/api"
	"breeze/burn"
)

// sample is a heap, and how far each of its places is from each one.
type sample struct {
	h   burn.Heap
	far [][]int
}

// measured measures a heap: a way over a place is as long as the ways to it and from it.
func measured(h burn.Heap) sample {
	far := make([][]int, h.Places)
	for a := range far {
		far[a] = slices.Repeat(list(100), h.Places)
		far[a][a] = 0
	}
	for _, way := range h.Ways {
		far[way[0]][way[1]], far[way[1]][way[0]] = 1, 1
	}
	for over := range far {
		for a := range far {
			for b := range far {
				far[a][b] = min(far[a][b], far[a][over]+far[over][b])
			}
		}
	}
	return sample{h, far}
}

// isWhole tells whether one comes from each place to each other one.
func (x sample) isWhole() bool {
	return !slices.ContainsFunc(x.far, func(l []int) bool { return slices.Max(l) >= x.h.Places })
}

// places are all places.
func (x sample) places() []int {
	var l []int
	for place := range x.h.Places {
		l = append(l, place)
	}
	return l
}

// these are the places of which something is true.
func (x sample) these(isTrue func(int) bool) []int {
	return slices.DeleteFunc(x.places(), func(place int) bool { return !isTrue(place) })
}

// burnt tells what burns on each day, by the definition.
func (x sample) burnt(fires []int) [][]int {
	var out [][]int
	var before []int
	for day, fire := range fires {
		before = x.these(func(place int) bool {
			return place == fire || day > 0 && slices.ContainsFunc(before, func(b int) bool { return x.far[b][place] <= 1 })
		})
		out = append(out, before)
	}
	return out
}

// isEnough tells whether fires are enough, by P13.8.
func (x sample) isEnough(fires []int) bool {
	return len(x.reached(fires, len(fires)-1)) == x.h.Places
}

// reached are the places that are at most as far from the place of a day as days have passed since then.
func (x sample) reached(fires []int, day int) []int {
	return x.these(func(place int) bool {
		for i, fire := range fires[:day+1] {
			if x.far[fire][place] <= day-i {
				return true
			}
		}
		return false
	})
}

// eachList calls do with all lists of so many places, in ascending order.
func eachList(places, many int, do func([]int)) {
	l := make([]int, many)
	for {
		do(slices.Clone(l))
		last := many - 1
		for last >= 0 && l[last] == places-1 {
			l[last] = 0
			last--
		}
		if last < 0 {
			return
		}
		l[last]++
	}
}

// fewest returns all lists of as few fires as can be enough, in ascending order.
func (x sample) fewest() [][]int {
	for days := 1; ; days++ {
		var out [][]int
		eachList(x.h.Places, days, func(fires []int) {
			if x.isEnough(fires) {
				out = append(out, fires)
			}
		})
		if len(out) > 0 {
			return out
		}
	}
}

// bar tells whether places bar days, by the definition.
func (x sample) bar(days int, places []int) bool {
	for i, a := range places {
		for k, b := range places {
			if i != k && x.far[a][b] < 2*days-1 {
				return false
			}
		}
	}
	return len(places) > days
}

// pairs are all ways that so many places can have.
func pairs(places int) [][2]int {
	var out [][2]int
	for b := range places {
		for a := range b {
			out = append(out, [2]int{a, b})
		}
	}
	return out
}

// choices returns all ways to choose ways between so many places.
func choices(places int) []burn.Heap {
	var out []burn.Heap
	all := pairs(places)
	for bits := range 1 << len(all) {
		h := burn.Heap{Places: places}
		for i, way := range all {
			if bits>>i&1 == 1 {
				h.Ways = append(h.Ways, way)
			}
		}
		out = append(out, h)
	}
	return out
}

// heaps returns all heaps of so many places, at most five, with their ways in an order that is drawn.
func heaps(r *rand.Rand, places int) []sample {
	var out []sample
	for _, h := range choices(places) {
		if x := measured(shuffled(r, h)); x.isWhole() {
			out = append(out, x)
		}
	}
	return out
}

func shuffled(r *rand.Rand, h burn.Heap) burn.Heap {
	h.Ways = slices.Clone(h.Ways)
	r.Shuffle(len(h.Ways), func(i, k int) { h.Ways[i], h.Ways[k] = h.Ways[k], h.Ways[i] })
	return h
}

// renamed gives other numbers to places: new tells which.
func renamed(h burn.Heap, new []int) burn.Heap {
	out := burn.Heap{Places: h.Places}
	for _, way := range h.Ways {
		a, b := new[way[0]], new[way[1]]
		out.Ways = append(out.Ways, [2]int{min(a, b), max(a, b)})
	}
	return out
}

// drawn draws a heap: a tree whose places hang at one of the last ones before them, or at any, and some
// ways more, or none.
func drawn(r *rand.Rand, places int) sample {
	h := burn.Heap{Places: places}
	back := 1 + r.IntN(places)
	for place := 1; place < places; place++ {
		h.Ways = append(h.Ways, [2]int{place - 1 - r.IntN(min(place, back)), place})
	}
	if r.IntN(3) > 0 {
		for range r.IntN(burn.MaxWays) {
			way := pairs(places)[r.IntN(places*(places-1)/2)]
			if len(h.Ways) < burn.MaxWays && !slices.Contains(h.Ways, way) {
				h.Ways = append(h.Ways, way)
			}
		}
	}
	return measured(shuffled(r, renamed(h, r.Perm(places))))
}

// samples returns all heaps of up to five places, rows and rings, and some of six to nine places.
func samples() []sample {
	r := rand.New(rand.NewPCG(13, 0))
	var out []sample
	for places := 1; places <= 5; places++ {
		out = append(out, heaps(r, places)...)
	}
	for places := 6; places <= burn.MaxPlaces; places++ {
		out = append(out, measured(row(places)), measured(ring(places)))
		for range 150 {
			out = append(out, drawn(r, places))
		}
	}
	return out
}

// enough tells whether samples were such as a test needs.
func enough(t *testing.T, found map[string]int, kinds, least int) {
	t.Helper()
	if len(found) < kinds || slices.Min(slices.Collect(maps.Values(found))) < least {
		t.Errorf("too few samples: %v", found)
	}
}

// P13.1: a heap is one just if one comes to all places.
func TestAllHeaps(t *testing.T) {
	found := map[string]int{}
	for places := 1; places <= 5; places++ {
		for _, h := range choices(places) {
			want := api.ErrShape
			if measured(h).isWhole() {
				want = api.OK
			}
			if e := burn.Check(h); e != want {
				t.Errorf("Check of %v: %d, want %d", h, e, want)
			}
			found[strconv.Itoa(int(want))]++
		}
	}
	enough(t, found, 2, 200)
}

// P13.2, by the definition.
func TestAllFar(t *testing.T) {
	found := map[string]int{}
	for _, x := range samples() {
		for _, a := range x.places() {
			for _, b := range x.places() {
				if n := must(burn.Far(x.h, a, b)); n != x.far[a][b] {
					t.Errorf("Far of %v: %d to %d: %d, want %d", x.h, a, b, n, x.far[a][b])
				}
				found["as far as "+strconv.Itoa(x.far[a][b])]++
			}
			for most := range x.h.Places + 2 {
				want := x.these(func(b int) bool { return x.far[a][b] <= most })
				if l := must(burn.Near(x.h, a, most)); !slices.Equal(l, want) {
					t.Errorf("Near of %v: %d, %d: %v, want %v", x.h, a, most, l, want)
				}
			}
		}
	}
	enough(t, found, burn.MaxPlaces, 2)
}

// someFires draws fires for a heap: many at any places, and few.
func someFires(r *rand.Rand, x sample) [][]int {
	var out [][]int
	for many := 1; many <= burn.MaxPlaces; many++ {
		var l []int
		for range many {
			l = append(l, r.IntN(x.h.Places))
		}
		out = append(out, l, slices.Repeat(l[:1], many))
	}
	return out
}

// P13.3 by the definition, P13.8 and P13.12.
func TestAllBurnt(t *testing.T) {
	r := rand.New(rand.NewPCG(13, 1))
	found := map[string]int{}
	for _, x := range samples() {
		for _, fires := range someFires(r, x) {
			days := must(burn.Burnt(x.h, fires))
			if want := x.burnt(fires); !slices.EqualFunc(days, want, slices.Equal[[]int]) {
				t.Errorf("Burnt of %v: %v: %v, want %v", x.h, fires, days, want)
				continue
			}
			want, name := api.OK, "enough"
			if len(days[len(days)-1]) < x.h.Places {
				want, name = api.ErrProof, "not enough"
			}
			if e := burn.Enough(x.h, fires); e != want {
				t.Errorf("Enough of %v: %v: %d, want %d", x.h, fires, e, want)
			}
			found[name]++
			if want == api.OK {
				elsewhere(t, x, fires)
			}
			for day, l := range days {
				if want := x.reached(fires, day); !slices.Equal(l, want) {
					t.Errorf("%v: %v: %v burn on day %d, want %v", x.h, fires, l, day, want)
				}
				if day == 0 {
					continue
				}
				before := days[day-1]
				if slices.ContainsFunc(before, func(place int) bool { return !slices.Contains(l, place) }) || len(l) == len(before) && len(l) < x.h.Places {
					t.Errorf("%v: %v: %v burn on day %d, but %v on the day before", x.h, fires, l, day, before)
				}
			}
		}
	}
	enough(t, found, 2, 1000)
}

// P13.3 and P13.8, by all fires of up to four days, in heaps of up to four places.
func TestAllFires(t *testing.T) {
	r := rand.New(rand.NewPCG(13, 2))
	for places := 1; places <= 4; places++ {
		for _, x := range heaps(r, places) {
			for many := 1; many <= 4; many++ {
				eachList(places, many, func(fires []int) {
					days, want := must(burn.Burnt(x.h, fires)), x.burnt(fires)
					if !slices.EqualFunc(days, want, slices.Equal[[]int]) || !slices.Equal(days[many-1], x.reached(fires, many-1)) {
						t.Errorf("Burnt of %v: %v: %v, want %v", x.h, fires, days, want)
					}
					if e := burn.Enough(x.h, fires); (e == api.OK) != x.isEnough(fires) {
						t.Errorf("Enough of %v: %v: %d, burn: %v", x.h, fires, e, want)
					}
				})
			}
		}
	}
}

// elsewhere lays the last fire of enough ones at each place: by P13.12, at most one place does not burn.
func elsewhere(t *testing.T, x sample, fires []int) {
	t.Helper()
	fires = slices.Clone(fires)
	for _, place := range x.places() {
		fires[len(fires)-1] = place
		burnt := must(burn.Burnt(x.h, fires))
		if left := x.h.Places - len(burnt[len(fires)-1]); left > 1 || (left == 0) != (burn.Enough(x.h, fires) == api.OK) {
			t.Errorf("%v: %v: %d places are left: %v", x.h, fires, left, burnt)
		}
	}
}

// P13.4 by the definition, and the second sentence of P13.12.
func TestAllFewest(t *testing.T) {
	found := map[string]int{}
	for _, x := range samples() {
		want := x.fewest()
		days := must(burn.Days(x.h))
		if days != len(want[0]) {
			t.Errorf("Days of %v: %d, want %d", x.h, days, len(want[0]))
		}
		if l := must(burn.Fewest(x.h)); !slices.Equal(l, want[0]) || burn.Enough(x.h, l) != api.OK {
			t.Errorf("Fewest of %v: %v, want %v", x.h, l, want[0])
		}
		if n := must(burn.Count(x.h)); n != len(want) {
			t.Errorf("Count of %v: %d, want %d", x.h, n, len(want))
		}
		found[strconv.Itoa(days)+" days"]++
		elsewhere(t, x, want[0])
		elsewhere(t, x, want[len(want)-1])
	}
	enough(t, found, 3, 1)
}

// P13.5, by the definition.
func TestAllApart(t *testing.T) {
	r := rand.New(rand.NewPCG(13, 3))
	found := map[string]int{}
	for _, x := range samples() {
		// some lists of places for each heap, and all for small ones
		var some [][]int
		for bits := range 1 << x.h.Places {
			if x.h.Places < 5 || r.IntN(8) == 0 {
				some = append(some, x.these(func(place int) bool { return bits>>place&1 == 1 }))
			}
		}
		for days := 1; days <= burn.MaxPlaces; days++ {
			for _, places := range some {
				want := api.ErrProof
				if x.bar(days, places) {
					want = api.OK
				}
				if e := burn.Proves(x.h, days, places); e != want {
					t.Errorf("Proves of %v: %d by %v: %d, want %d", x.h, days, places, e, want)
				}
			}
			r, want := single(burn.Apart(x.h, days)), single(x.apart(days))
			if !r.same(want) {
				t.Errorf("Apart of %v: %d: %v, want %v", x.h, days, r, want)
			}
			if r.e == api.OK && burn.Proves(x.h, days, r.lists[0]) != api.OK {
				t.Errorf("%v: %d days, %v are refused", x.h, days, r)
			}
			if days <= 2 {
				found[strconv.Itoa(days)+" days: "+strconv.Itoa(int(r.e))]++
			}
		}
	}
	enough(t, found, 4, 1)
}

// apart returns the first list of places, one more than there are days, that bar the days.
func (x sample) apart(days int) ([]int, api.Errno) {
	var first []int
	for bits := range 1 << x.h.Places {
		l := x.these(func(place int) bool { return bits>>place&1 == 1 })
		if len(l) == days+1 && x.bar(days, l) && (first == nil || slices.Compare(l, first) < 0) {
			first = l
		}
	}
	if first == nil {
		return nil, api.ErrLost
	}
	return first, api.OK
}

// P13.6, by the definitions: the row is cut into parts of places, one for each day.
func TestAllRows(t *testing.T) {
	for places := 1; places <= burn.MaxRow; places++ {
		k := must(burn.Root(places))
		if k < 1 || k*k < places || (k-1)*(k-1) >= places {
			t.Errorf("Root of %d: %d", places, k)
		}
		var left, want []int
		for place := range k * k {
			left = append(left, place)
		}
		for size := 2*k - 1; size >= 1; size -= 2 {
			want = append(want, min(left[:size][size/2], places-1))
			left = left[size:]
		}
		if l := must(burn.Row(places)); !slices.Equal(l, want) {
			t.Errorf("Row of %d: %v, want %v", places, l, want)
		}
	}
}

// P13.7, also for rows and rings that are longer than heaps: all of their places are as far as days have
// passed, at most, from a fire of Row, and less fires can never reach so many places.
func TestRows(t *testing.T) {
	for places := 1; places <= burn.MaxRow; places++ {
		fires, k := must(burn.Row(places)), must(burn.Root(places))
		reaches := 0
		for day := range k - 1 {
			reaches += 2*day + 1
		}
		if len(fires) != k || reaches >= places || !measured(row(places)).isEnough(fires) || places >= 3 && !measured(ring(places)).isEnough(fires) {
			t.Errorf("row of %d places: %v", places, fires)
		}
		if places > burn.MaxPlaces {
			continue
		}
		if days := must(burn.Days(row(places))); days != k || burn.Enough(row(places), fires) != api.OK {
			t.Errorf("row of %d places: %d days, %v", places, days, fires)
		}
		if places >= 3 && (must(burn.Days(ring(places))) != k || burn.Enough(ring(places), fires) != api.OK) {
			t.Errorf("ring of %d places: %v", places, fires)
		}
	}
}

// P13.9
func TestBounds(t *testing.T) {
	found := map[string]int{}
	for _, x := range samples() {
		days := must(burn.Days(x.h))
		for d := 1; d <= burn.MaxPlaces; d++ {
			places, e := burn.Apart(x.h, d)
			if e == api.OK && d >= days {
				t.Errorf("%v: %d days, but %v bar %d", x.h, days, places, d)
			}
			if e == api.OK && d == days-1 {
				found["barred one day before"]++
			}
		}
		longest := 0
		for _, l := range x.far {
			if days > slices.Max(l)+1 {
				t.Errorf("%v: %d days, but no place is farther than %d from one", x.h, days, slices.Max(l))
			}
			longest = max(longest, slices.Max(l))
			if days == slices.Max(l)+1 {
				found["as many as the farthest place"]++
			}
		}
		root := must(burn.Root(longest + 1))
		if days < root {
			t.Errorf("%v: %d days, but a way of %d places", x.h, days, longest+1)
		}
		if days == root {
			found["as many as the root"]++
		}
	}
	enough(t, found, 3, 100)
}

// without returns the heap without one of its ways.
func without(h burn.Heap, i int) burn.Heap {
	h.Ways = slices.Delete(slices.Clone(h.Ways), i, i+1)
	return h
}

// trees returns all heaps with just one way less than places, among the ways of a heap.
func trees(h burn.Heap) []burn.Heap {
	var out []burn.Heap
	var take func(taken, left [][2]int)
	take = func(taken, left [][2]int) {
		missing := h.Places - 1 - len(taken)
		if missing == 0 {
			if tree := (burn.Heap{Places: h.Places, Ways: taken}); measured(tree).isWhole() {
				out = append(out, tree)
			}
			return
		}
		if len(left) >= missing {
			take(append(slices.Clip(taken), left[0]), left[1:])
			take(taken, left[1:])
		}
	}
	take(nil, h.Ways)
	return out
}

// P13.10
func TestFewerWays(t *testing.T) {
	found := map[string]int{}
	for n, x := range samples() {
		days := must(burn.Days(x.h))
		for i := range x.h.Ways {
			less := without(x.h, i)
			if !measured(less).isWhole() {
				if r := one(burn.Days(less)); !r.same(nothing(api.ErrShape)) {
					t.Errorf("Days of %v: %v", less, r)
				}
				continue
			}
			fewer := must(burn.Days(less))
			if fewer < days {
				t.Errorf("%v: %d days, but %d without way %d", x.h, days, fewer, i)
			}
			found["more days: "+strconv.FormatBool(fewer > days)]++
		}
		if x.h.Places > 5 && n%4 > 0 {
			continue
		}
		takesAsLong := func(tree burn.Heap) bool { return must(burn.Days(tree)) == days }
		if !slices.ContainsFunc(trees(x.h), takesAsLong) {
			t.Errorf("%v: no tree takes %d days", x.h, days)
		}
	}
	enough(t, found, 2, 20)
}

// P13.11
func TestNames(t *testing.T) {
	r := rand.New(rand.NewPCG(13, 4))
	for _, x := range samples() {
		other := renamed(x.h, r.Perm(x.h.Places))
		if a, b := must(burn.Days(x.h)), must(burn.Days(other)); a != b {
			t.Errorf("%v: %d days, but %d of %v", x.h, a, b, other)
		}
		if a, b := must(burn.Count(x.h)), must(burn.Count(other)); a != b {
			t.Errorf("%v: %d lists, but %d of %v", x.h, a, b, other)
		}
		turned := shuffled(r, x.h)
		for _, l := range [][]int{must(burn.Fewest(x.h)), list(0), x.places()} {
			a, b := all(x.h, 0, 1, l), all(turned, 0, 1, l)
			maps.Copy(a, map[string]result{"Apart of 2": single(burn.Apart(x.h, 2)), "Proves 2": nothing(burn.Proves(x.h, 2, l))})
			maps.Copy(b, map[string]result{"Apart of 2": single(burn.Apart(turned, 2)), "Proves 2": nothing(burn.Proves(turned, 2, l))})
			for name := range a {
				if !a[name].same(b[name]) {
					t.Errorf("%s of %v, %v: %v, but %v of %v", name, x.h, l, a[name], b[name], turned)
				}
			}
		}
	}
}
