package round_test

import (
	"iter"
	"math/rand/v2"
	"slices"
	"testing"

	"breeze/api"
	"breeze/round"
)

// small returns all maps of up to 4 corners with up to 5 streets, up to the order of their streets.
func small() []round.Map {
	var out []round.Map
	for corners := 1; corners <= 4; corners++ {
		var add func(m round.Map, from [2]int)
		add = func(m round.Map, from [2]int) {
			if round.Check(m) == api.OK {
				out = append(out, m)
			}
			if len(m.Streets) == 5 {
				return
			}
			for a := range corners {
				for b := a + 1; b < corners; b++ {
					s := [2]int{a, b}
					if slices.Compare(s[:], from[:]) >= 0 {
						add(round.Map{Corners: corners, Streets: append(slices.Clone(m.Streets), s)}, s)
					}
				}
			}
		}
		add(round.Map{Corners: corners}, [2]int{})
	}
	return out
}

// mixed returns some maps up to the limits, with their streets in no order.
func mixed(many int) []round.Map {
	r := rand.New(rand.NewPCG(2, 13))
	var out []round.Map
	for len(out) < many {
		m := round.Map{Corners: 2 + r.IntN(round.MaxCorners-1)}
		for range m.Corners - 1 + r.IntN(round.MaxStreets-m.Corners+2) {
			a, b := r.IntN(m.Corners), r.IntN(m.Corners)
			if a != b {
				m.Streets = append(m.Streets, [2]int{min(a, b), max(a, b)})
			}
		}
		if round.Check(m) == api.OK {
			out = append(out, m)
		}
	}
	return out
}

// stiff returns maps in which there are less cuts than streets: D, and larger ones that have it in them.
func stiff() []round.Map {
	return []round.Map{
		full(),
		town(4, 2, 3, 1, 3, 1, 2, 0, 3, 0, 2, 0, 1),
		with(full(), [2]int{1, 2}, [2]int{1, 2}),
		town(5, 2, 3, 0, 1, 0, 4, 1, 2, 0, 2, 1, 4, 2, 4),
		town(5, 1, 3, 2, 3, 2, 4, 1, 2, 0, 1, 2, 4, 0, 2, 0, 3),
		town(6, 3, 5, 0, 1, 0, 5, 4, 5, 1, 5, 2, 3, 0, 3, 1, 3),
		town(6, 0, 2, 0, 1, 3, 4, 2, 4, 0, 4, 0, 1, 2, 3, 4, 5, 0, 3),
	}
}

func samples() []round.Map { return slices.Concat(small(), stiff(), mixed(150)) }

// must is a result that may not be refused.
func must[T any](result T, e api.Errno) T {
	if e != api.OK {
		panic(e)
	}
	return result
}

// subsets yields all lists of numbers less than many in strictly ascending order.
func subsets(many int) iter.Seq[[]int] {
	return func(yield func([]int) bool) {
		for bits := range 1 << many {
			var l []int
			for i := range many {
				if bits>>i&1 == 1 {
					l = append(l, i)
				}
			}
			if !yield(l) {
				return
			}
		}
	}
}

// enough returns all lists of streets that are enough, as Enough tells.
func enough(m round.Map) [][]int {
	var out [][]int
	for l := range subsets(len(m.Streets)) {
		if round.Enough(m, l) == api.OK {
			out = append(out, l)
		}
	}
	return out
}

// walks finds the first round that goes through each street as often as it is told: it tries all
// ways, the smallest streets first.
func walks(m round.Map, often []int) ([]int, bool) {
	left := slices.Clone(often)
	var way []int
	var walk func(at int) bool
	walk = func(at int) bool {
		if slices.Max(append(left, 0)) == 0 {
			return at == 0
		}
		for i, s := range m.Streets {
			if left[i] == 0 || s[0] != at && s[1] != at {
				continue
			}
			left[i]--
			way = append(way, i)
			if walk(s[0] + s[1] - at) {
				return true
			}
			way = way[:len(way)-1]
			left[i]++
		}
		return false
	}
	ok := walk(0)
	return way, ok
}

func passes(m round.Map, twice []int) []int {
	often := slices.Repeat(list(1), len(m.Streets))
	for _, i := range twice {
		often[i]++
	}
	return often
}

// degree is how many of some streets have a corner.
func degree(m round.Map, streets []int, corner int) int {
	n := 0
	for _, i := range streets {
		if slices.Contains(m.Streets[i][:], corner) {
			n++
		}
	}
	return n
}

func everyStreet(m round.Map) []int {
	var l []int
	for i := range m.Streets {
		l = append(l, i)
	}
	return l
}

func share(a, b []int) bool {
	return slices.ContainsFunc(a, func(i int) bool { return slices.Contains(b, i) })
}

// P2.1, by the definition.
func TestOddCorners(t *testing.T) {
	for _, m := range samples() {
		var want []int
		for c := range m.Corners {
			if degree(m, everyStreet(m), c)%2 == 1 {
				want = append(want, c)
			}
		}
		if l := must(round.Odd(m)); !slices.Equal(l, want) {
			t.Errorf("Odd of %v: %v, want %v", m, l, want)
		}
	}
}

// P2.2, by the definition: streets are enough if there is a round, and the first one is returned.
func TestAllRounds(t *testing.T) {
	for _, m := range small() {
		for l := range subsets(len(m.Streets)) {
			want, ok := walks(m, passes(m, l))
			got, e := round.Round(m, l)
			if ok && (e != api.OK || !slices.Equal(got, want)) || !ok && (e != api.ErrProof || len(got) != 0) {
				t.Fatalf("Round of %v: %v: %v %d, want %v %v", m, l, got, e, want, ok)
			}
			if f := round.Enough(m, l); f != e {
				t.Fatalf("Enough of %v: %v: %d, but Round %d", m, l, f, e)
			}
		}
	}
}

// P2.2, up to the limits.
func TestFirstRounds(t *testing.T) {
	for _, m := range mixed(60) {
		for k, l := range enough(m) {
			if k%5 > 0 {
				continue
			}
			want, ok := walks(m, passes(m, l))
			if got := must(round.Round(m, l)); !ok || !slices.Equal(got, want) {
				t.Errorf("Round of %v: %v: %v, want %v %v", m, l, got, want, ok)
			}
		}
	}
}

// P2.3
func TestFewestAndCount(t *testing.T) {
	for _, m := range samples() {
		all := enough(m)
		if n := must(round.Count(m)); n != len(all) {
			t.Errorf("Count of %v: %d, want %d", m, n, len(all))
		}
		want := all[0]
		for _, l := range all {
			if len(l) < len(want) || len(l) == len(want) && slices.Compare(l, want) < 0 {
				want = l
			}
		}
		if l := must(round.Fewest(m)); !slices.Equal(l, want) {
			t.Errorf("Fewest of %v: %v, want %v", m, l, want)
		}
	}
}

// P2.4: by steps of one street each, with all short lists of streets of small maps.
func TestAllWalks(t *testing.T) {
	for _, m := range []round.Map{ring(), flag(), pair(), town(2, 0, 1, 0, 1), town(3, 1, 2, 0, 1)} {
		var walk func(way, often []int, at int, lost bool)
		walk = func(way, often []int, at int, lost bool) {
			want := api.OK
			switch {
			case lost:
				want = api.ErrLost
			case at != 0:
				want = api.ErrOpen
			case slices.Contains(often, 0):
				want = api.ErrEmpty
			}
			got, e := round.Goes(m, way)
			if e != want || e == api.OK && !slices.Equal(got, often) || e != api.OK && len(got) > 0 {
				t.Fatalf("Goes of %v: %v: %v %d, want %v %d", m, way, got, e, often, want)
			}
			if len(way) == 6 {
				return
			}
			for i, s := range m.Streets {
				next := slices.Clone(often)
				next[i]++
				to, off := s[0]+s[1]-at, lost || s[0] != at && s[1] != at
				walk(append(slices.Clone(way), i), next, to, off)
			}
		}
		walk(nil, make([]int, len(m.Streets)), 0, false)
	}
}

// crossing is the cut of a side, by the definition.
func crossing(m round.Map, side []int) []int {
	var cut []int
	for i, s := range m.Streets {
		if slices.Contains(side, s[0]) != slices.Contains(side, s[1]) {
			cut = append(cut, i)
		}
	}
	return cut
}

// oddSides are all sides with an odd number of odd corners.
func oddSides(m round.Map) [][]int {
	odd := must(round.Odd(m))
	var out [][]int
	for side := range subsets(m.Corners) {
		n := 0
		for _, c := range side {
			if slices.Contains(odd, c) {
				n++
			}
		}
		if n%2 == 1 {
			out = append(out, side)
		}
	}
	return out
}

// P2.5, by the definitions.
func TestAllSides(t *testing.T) {
	for _, m := range samples() {
		odd := oddSides(m)
		for side := range subsets(m.Corners) {
			got, e := round.Cut(m, side)
			if len(side) == 0 || len(side) == m.Corners {
				if e != api.ErrShape || len(got) != 0 {
					t.Errorf("Cut of %v: %v: %v %d", m, side, got, e)
				}
				continue
			}
			if want := crossing(m, side); e != api.OK || !slices.Equal(got, want) {
				t.Errorf("Cut of %v: %v: %v %d, want %v", m, side, got, e, want)
			}
			want := api.ErrProof
			if slices.ContainsFunc(odd, func(l []int) bool { return slices.Equal(l, side) }) {
				want = api.OK
			}
			if e := round.Proves(m, lists(side)); e != want {
				t.Errorf("Proves of %v: %v: %d, want %d", m, side, e, want)
			}
		}
		for _, a := range odd {
			for _, b := range odd {
				want := api.OK
				if share(crossing(m, a), crossing(m, b)) {
					want = api.ErrTwice
				}
				if e := round.Proves(m, lists(a, b)); e != want {
					t.Errorf("Proves of %v: %v, %v: %d, want %d", m, a, b, e, want)
				}
			}
		}
	}
}

// mostCuts tries all proofs, and returns the first of those with the most cuts.
func mostCuts(m round.Map) [][]int {
	var cuts [][]int
	for _, side := range oddSides(m) {
		cuts = append(cuts, crossing(m, side))
	}
	slices.SortFunc(cuts, slices.Compare)
	var most [][]int
	var add func(proof [][]int, from int)
	add = func(proof [][]int, from int) {
		if len(proof) > len(most) {
			most = slices.Clone(proof)
		}
		for k := from; k < len(cuts); k++ {
			if !slices.ContainsFunc(proof, func(c []int) bool { return share(c, cuts[k]) }) {
				add(append(proof, cuts[k]), k+1)
			}
		}
	}
	add(nil, 0)
	return most
}

// P2.6
func TestMostCuts(t *testing.T) {
	for _, m := range samples() {
		want := mostCuts(m)
		if got := must(round.Cuts(m)); !sameLists(got, want) {
			t.Errorf("Cuts of %v: %v, want %v", m, got, want)
		}
	}
}

// hasOddRing looks for a ring with an odd number of corners. Rings of two corners are even, so
// that it does not matter here whether there are two streets between them.
func hasOddRing(m round.Map) bool {
	joined := func(a, b int) bool { return slices.Contains(m.Streets, [2]int{min(a, b), max(a, b)}) }
	var grow func(ring []int) bool
	grow = func(ring []int) bool {
		last := ring[len(ring)-1]
		if len(ring) > 1 && len(ring)%2 == 1 && joined(last, ring[0]) {
			return true
		}
		for c := range m.Corners {
			if !slices.Contains(ring, c) && joined(last, c) && grow(append(ring, c)) {
				return true
			}
		}
		return false
	}
	for c := range m.Corners {
		if grow(list(c)) {
			return true
		}
	}
	return false
}

// P2.6
func TestEvenMaps(t *testing.T) {
	found := map[bool]int{}
	for _, m := range samples() {
		want := !hasOddRing(m)
		if got := must(round.Even(m)); got != want {
			t.Errorf("Even of %v: %v", m, got)
		}
		found[want]++
	}
	if found[true] < 20 || found[false] < 20 {
		t.Errorf("too few maps: %v", found)
	}
}

// P2.7
func TestJustThese(t *testing.T) {
	for _, m := range samples() {
		odd := must(round.Odd(m))
		if len(odd)%2 == 1 {
			t.Errorf("Odd of %v: %v", m, odd)
		}
		if got := round.Enough(m, nil) == api.OK; got != (len(odd) == 0) {
			t.Errorf("Enough of %v: none: %v, but odd are %v", m, got, odd)
		}
		for l := range subsets(len(m.Streets)) {
			want := api.OK
			for c := range m.Corners {
				if (degree(m, l, c)%2 == 1) != slices.Contains(odd, c) {
					want = api.ErrProof
				}
			}
			if e := round.Enough(m, l); e != want {
				t.Errorf("Enough of %v: %v: %d, want %d", m, l, e, want)
			}
		}
	}
}

// P2.8: cuts prove that there are no fewer streets; in maps that are not even there can be less of them.
func TestCutsAndStreets(t *testing.T) {
	for _, m := range samples() {
		sides := oddSides(m)
		for _, l := range enough(m) {
			for _, side := range sides {
				if !share(l, must(round.Cut(m, side))) {
					t.Errorf("%v: %v is enough, and not in the cut of %v", m, l, side)
				}
			}
		}
		cuts, fewest := must(round.Cuts(m)), must(round.Fewest(m))
		if len(cuts) > len(fewest) || must(round.Even(m)) && len(cuts) != len(fewest) {
			t.Errorf("%v: cuts %v, streets %v", m, cuts, fewest)
		}
	}
	for _, m := range stiff() {
		if cuts, fewest := must(round.Cuts(m)), must(round.Fewest(m)); len(cuts) >= len(fewest) {
			t.Errorf("%v: cuts %v, streets %v", m, cuts, fewest)
		}
	}
}

// P2.6 and P2.8: sides that have the cuts of Cuts are a proof.
func TestCutsAreProofs(t *testing.T) {
	for _, m := range samples() {
		var sides [][]int
		for _, c := range must(round.Cuts(m)) {
			for _, side := range oddSides(m) {
				if slices.Equal(crossing(m, side), c) {
					sides = append(sides, side)
					break
				}
			}
		}
		if e := round.Proves(m, sides); e != api.OK || len(sides) != len(must(round.Cuts(m))) {
			t.Errorf("Proves of %v: %v: %d", m, sides, e)
		}
	}
}

// P2.9
func TestHowMany(t *testing.T) {
	for _, m := range samples() {
		if n := must(round.Count(m)); n != 1<<(len(m.Streets)-m.Corners+1) {
			t.Errorf("Count of %v: %d", m, n)
		}
	}
}

// P2.10: each street of Fewest joins corners that those before it have not joined.
func TestNoRing(t *testing.T) {
	for _, m := range samples() {
		part := make([]int, m.Corners)
		for c := range part {
			part[c] = c
		}
		fewest := must(round.Fewest(m))
		for _, i := range fewest {
			a, b := part[m.Streets[i][0]], part[m.Streets[i][1]]
			if a == b {
				t.Errorf("Fewest of %v: %v has a ring", m, fewest)
			}
			for c := range part {
				if part[c] == a {
					part[c] = b
				}
			}
		}
	}
}

// P2.11
func TestThereAndBack(t *testing.T) {
	for _, m := range samples() {
		for _, l := range enough(m) {
			way := must(round.Round(m, l))
			want := passes(m, l)
			if got, e := round.Goes(m, way); e != api.OK || !slices.Equal(got, want) {
				t.Errorf("Goes of %v: %v: %v %d, want %v", m, way, got, e, want)
			}
			slices.Reverse(way)
			if got, e := round.Goes(m, way); e != api.OK || !slices.Equal(got, want) {
				t.Errorf("Goes of %v, back: %v: %v %d, want %v", m, way, got, e, want)
			}
		}
	}
}

// renamed returns the map whose corner c has the number names[c], with its streets in another order.
func renamed(m round.Map, names []int, r *rand.Rand) round.Map {
	out := round.Map{Corners: m.Corners}
	for _, i := range r.Perm(len(m.Streets)) {
		a, b := names[m.Streets[i][0]], names[m.Streets[i][1]]
		out.Streets = append(out.Streets, [2]int{min(a, b), max(a, b)})
	}
	return out
}

// P2.12
func TestNames(t *testing.T) {
	r := rand.New(rand.NewPCG(5, 8))
	for _, m := range samples() {
		for range 4 {
			names := list(0)
			for _, c := range r.Perm(m.Corners - 1) {
				names = append(names, c+1)
			}
			other := renamed(m, names, r)
			if a, b := must(round.Fewest(m)), must(round.Fewest(other)); len(a) != len(b) {
				t.Errorf("Fewest of %v: %v; of %v: %v", m, a, other, b)
			}
			if a, b := must(round.Cuts(m)), must(round.Cuts(other)); len(a) != len(b) {
				t.Errorf("Cuts of %v: %v; of %v: %v", m, a, other, b)
			}
			if a, b := must(round.Count(m)), must(round.Count(other)); a != b {
				t.Errorf("Count of %v: %d; of %v: %d", m, a, other, b)
			}
		}
	}
}

// with returns the map with some streets more.
func with(m round.Map, streets ...[2]int) round.Map {
	return round.Map{Corners: m.Corners, Streets: slices.Concat(m.Streets, streets)}
}

// P2.13
func TestMoreStreets(t *testing.T) {
	for _, m := range samples() {
		for _, l := range enough(m) {
			more := m
			for _, i := range l {
				more = with(more, m.Streets[i])
			}
			if len(more.Streets) > round.MaxStreets {
				continue
			}
			if odd := must(round.Odd(more)); len(odd) > 0 {
				t.Errorf("Odd of %v with %v: %v", m, l, odd)
			}
		}
		fewest, odd := must(round.Fewest(m)), must(round.Odd(m))
		for a := range m.Corners {
			for b := a + 1; b < m.Corners; b++ {
				s := [2]int{a, b}
				if n := len(m.Streets); n < round.MaxStreets {
					if l := must(round.Fewest(with(m, s))); len(l) > len(fewest)+1 {
						t.Errorf("Fewest of %v: %v, with %v: %v", m, fewest, s, l)
					}
				}
				if n := len(m.Streets); n+1 < round.MaxStreets {
					if l := must(round.Odd(with(m, s, s))); !slices.Equal(l, odd) {
						t.Errorf("Odd of %v: %v, with %v twice: %v", m, odd, s, l)
					}
				}
			}
		}
	}
}
