package crew_test

import (
	"maps"
	"math/bits"
	"math/rand/v2"
	"slices"
	"strings"
	"testing"

	"breeze/api"
	"breeze/crew"
)

// goesBack tells whether one can go on from a sifter by all of some pairs, in any order, to the sifter at the end.
func goesBack(at, end int, left [][2]int) bool {
	if len(left) == 0 {
		return at == end
	}
	for i, pair := range left {
		for side, from := range pair {
			if from == at && goesBack(pair[1-side], end, slices.Delete(slices.Clone(left), i, i+1)) {
				return true
			}
		}
	}
	return false
}

// part returns the elements whose bits are set.
func part[T any](l []T, set int) []T {
	var some []T
	for i, x := range l {
		if set>>i&1 == 1 {
			some = append(some, x)
		}
	}
	return some
}

// pairsOf returns all pairs of so many sifters.
func pairsOf(sifters int) [][2]int {
	var out [][2]int
	for a := range sifters {
		for b := a + 1; b < sifters; b++ {
			out = append(out, [2]int{a, b})
		}
	}
	return out
}

// newReference returns which different pairs of all sifters make no ring, by the definition: a bit stands for a pair.
func newReference() []int {
	all := pairsOf(crew.MaxSifters)
	rings := make([]bool, 1<<len(all))
	var free []int
	for set := range rings {
		some := part(all, set)
		rings[set] = set > 0 && goesBack(some[0][0], some[0][0], some)
		for i := range all {
			// what makes a ring makes one with other pairs, too
			rings[set] = rings[set] || rings[set&^(1<<i)]
		}
		if !rings[set] {
			free = append(free, set)
		}
	}
	return free
}

// sample is a crew, and which pairs make no ring.
type sample struct {
	crew.Crew
	free []int
}

func (x sample) many() int { return len(x.Kinds) }

// setOf returns the set of some pairs.
func setOf(pairs [][2]int) int {
	set := 0
	for _, pair := range pairs {
		set |= 1 << slices.Index(pairsOf(crew.MaxSifters), pair)
	}
	return set
}

// pairs returns all pairs of some kinds.
func (x sample) pairs(kinds []int) [][2]int {
	var out [][2]int
	for _, kind := range kinds {
		out = append(out, x.Kinds[kind]...)
	}
	return out
}

// rank is the greatest number of pairs of some kinds that make no ring.
func (x sample) rank(kinds []int) int {
	all, most := setOf(x.pairs(kinds)), 0
	for _, set := range x.free {
		if set&^all == 0 {
			most = max(most, bits.OnesCount(uint(set)))
		}
	}
	return most
}

// makesNone tells whether pairs, some of which may be equal, make no ring.
func (x sample) makesNone(pairs [][2]int) bool {
	set := setOf(pairs)
	_, found := slices.BinarySearch(x.free, set)
	return found && bits.OnesCount(uint(set)) == len(pairs)
}

// lists returns all lists of kinds, in ascending order.
func (x sample) lists() [][]int { return allKinds[x.many()] }

// allKinds has all lists of so many kinds.
var allKinds = func() [][][]int {
	var out [][][]int
	for many := range crew.MaxKinds + 1 {
		var l [][]int
		for set := range 1 << many {
			l = append(l, part(list(0, 1, 2, 3, 4)[:many], set))
		}
		slices.SortFunc(l, slices.Compare)
		out = append(out, l)
	}
	return out
}()

func (x sample) all() []int { return list(0, 1, 2, 3, 4)[:x.many()] }

// picked returns the pairs that are chosen for some kinds.
func (x sample) picked(kinds, choice []int) [][2]int {
	var out [][2]int
	for i, kind := range kinds {
		out = append(out, x.Kinds[kind][choice[i]])
	}
	return out
}

// picks returns all ways to pick a pair for each of some kinds, in ascending order.
func (x sample) picks(kinds []int) [][]int {
	if len(kinds) == 0 {
		return lists(nil)
	}
	var out [][]int
	last := kinds[len(kinds)-1]
	for _, l := range x.picks(kinds[:len(kinds)-1]) {
		for i := range x.Kinds[last] {
			out = append(out, append(slices.Clip(l), i))
		}
	}
	return out
}

// choices returns the picks whose pairs make no ring.
func (x sample) choices(kinds []int) [][]int {
	isWrong := func(l []int) bool { return !x.makesNone(x.picked(kinds, l)) }
	return slices.DeleteFunc(x.picks(kinds), isWrong)
}

// together returns all lists of kinds that go together, in ascending order.
func (x sample) together() [][]int {
	return slices.DeleteFunc(slices.Clone(x.lists()), func(kinds []int) bool { return len(x.choices(kinds)) == 0 })
}

// blocking returns all lists of kinds that block the crew, in ascending order.
func (x sample) blocking() [][]int {
	return slices.DeleteFunc(slices.Clone(x.lists()), func(kinds []int) bool { return x.rank(kinds) >= len(kinds) })
}

func has(many [][]int, l []int) bool {
	return slices.ContainsFunc(many, func(other []int) bool { return slices.Equal(l, other) })
}

// ofLength returns the first list of this length.
func ofLength(many [][]int, length func(...int) int) []int {
	var lengths []int
	for _, l := range many {
		lengths = append(lengths, len(l))
	}
	want := lengths[0]
	for _, n := range lengths {
		want = length(want, n)
	}
	return many[slices.Index(lengths, want)]
}

func longest(n ...int) int  { return slices.Max(n) }
func shortest(n ...int) int { return slices.Min(n) }

// crews returns all crews of one and two sifters, all with up to three kinds of three sifters, and some with up to five of four and of five.
func crews() []sample {
	r := rand.New(rand.NewPCG(10, 0))
	free := newReference()
	var out []sample
	for sifters := 1; sifters <= 3; sifters++ {
		for _, kinds := range below(1<<len(pairsOf(sifters)), []int{0, 5, 5, 3}[sifters]) {
			c := crew.Crew{Sifters: sifters}
			for _, set := range kinds {
				c.Kinds = append(c.Kinds, shuffled(r, part(pairsOf(sifters), set)))
			}
			out = append(out, sample{c, free})
		}
	}
	for i := range 2000 {
		sifters, kinds, most := 4+i%2, r.IntN(6), 1+r.IntN(crew.MaxPairs)
		c := crew.Crew{Sifters: sifters}
		for range kinds {
			few := r.IntN(most + 1)
			c.Kinds = append(c.Kinds, shuffled(r, pairsOf(sifters))[:few])
		}
		out = append(out, sample{c, free})
	}
	return out
}

// below returns all lists of up to so many numbers, each less than limit.
func below(limit, many int) [][]int {
	out := lists(nil)
	for begin := 0; many > 0; many-- {
		end := len(out)
		for _, l := range out[begin:end] {
			for n := range limit {
				out = append(out, append(slices.Clip(l), n))
			}
		}
		begin = end
	}
	return out
}

func shuffled[T any](r *rand.Rand, l []T) []T {
	l = slices.Clone(l)
	r.Shuffle(len(l), func(i, k int) { l[i], l[k] = l[k], l[i] })
	return l
}

func enough(t *testing.T, found map[string]int, kinds, least int) {
	t.Helper()
	if len(found) < kinds || slices.Min(slices.Collect(maps.Values(found))) < least {
		t.Errorf("too few samples: %v", found)
	}
}

// expected is the error of a crew, as the chapter describes it; each pair is told by a number.
func expected(sifters int, kinds [][][2]int) api.Errno {
	for _, l := range kinds {
		for i, pair := range l {
			switch {
			case min(pair[0], pair[1]) < 0 || max(pair[0], pair[1]) >= sifters:
				return api.ErrNone
			case pair[0] >= pair[1]:
				return api.ErrOrder
			case slices.Index(l, pair) < i:
				return api.ErrTwice
			}
		}
	}
	return api.OK
}

// P10.1: all lists of up to three of some right and wrong pairs, and all crews of two kinds with up to two such pairs.
func TestAllPairs(t *testing.T) {
	found := map[api.Errno]int{}
	some := [][2]int{{0, 1}, {1, 2}, {0, 2}, {1, 0}, {1, 1}, {-1, 1}, {1, 3}, {3, 0}}
	var kinds [][][2]int
	for _, l := range below(len(some), 3) {
		var kind [][2]int
		for _, i := range l {
			kind = append(kind, some[i])
		}
		kinds = append(kinds, kind)
	}
	check := func(kinds ...[][2]int) {
		for sifters := 1; sifters <= 4; sifters++ {
			want := expected(sifters, kinds)
			if e := crew.Check(crew.Crew{sifters, kinds}); e != want {
				t.Errorf("Check of %d, %v: %d, want %d", sifters, kinds, e, want)
			}
			found[want]++
		}
	}
	for _, kind := range kinds {
		check(kind)
		if len(kind) > 2 {
			continue
		}
		for _, other := range kinds {
			if len(other) < 3 {
				check(kind, other)
			}
		}
	}
	if len(found) != 4 || slices.Min(slices.Collect(maps.Values(found))) < 100 {
		t.Errorf("samples: %v", found)
	}
}

// P10.2, P10.5 and P10.7, by the definitions.
func TestAllKinds(t *testing.T) {
	found := map[string]int{}
	for _, x := range crews() {
		together, blocking := x.together(), x.blocking()
		for _, kinds := range x.lists() {
			if n := must(crew.Rank(x.Crew, kinds)); n != x.rank(kinds) {
				t.Errorf("Rank of %v, %v: %d, want %d", x.Crew, kinds, n, x.rank(kinds))
			}
			if yes := must(crew.Together(x.Crew, kinds)); yes != has(together, kinds) {
				t.Errorf("Together of %v, %v: %v", x.Crew, kinds, yes)
			}
			want := api.ErrProof
			if has(blocking, kinds) {
				want = api.OK
			}
			if e := crew.Proves(x.Crew, kinds); e != want {
				t.Errorf("Proves of %v, %v: %d, want %d", x.Crew, kinds, e, want)
			}
		}
		if l, want := must(crew.Most(x.Crew)), ofLength(together, longest); !slices.Equal(l, want) {
			t.Errorf("Most of %v: %v, want %v", x.Crew, l, want)
		}
		var want []int
		wantError := api.ErrClash
		if len(blocking) > 0 {
			want, wantError = ofLength(blocking, shortest), api.OK
			found["blocked by "+strings.Repeat("o", len(want))]++
			if !slices.Equal(want, blocking[0]) {
				found["not the first one"]++
			}
		} else {
			found["not blocked"]++
		}
		if l, e := crew.Why(x.Crew); !slices.Equal(l, want) || e != wantError {
			t.Errorf("Why of %v: %v %d, want %v %d", x.Crew, l, e, want, wantError)
		}
	}
	enough(t, found, 7, 10)
}

// P10.3 and P10.4, by the definitions.
func TestAllChoices(t *testing.T) {
	found := map[string]int{}
	for _, x := range crews() {
		choices := x.choices(x.all())
		var first []int
		wantError := api.ErrLost
		if len(choices) > 0 {
			first, wantError = choices[0], api.OK
			if slices.Max(append(first, 0)) > 0 {
				found["not all first pairs"]++
			}
		}
		if l, e := crew.First(x.Crew); !slices.Equal(l, first) || e != wantError {
			t.Errorf("First of %v: %v %d, want %v %d", x.Crew, l, e, first, wantError)
		}
		if n := must(crew.Count(x.Crew)); n != len(choices) {
			t.Errorf("Count of %v: %d, want %d", x.Crew, n, len(choices))
		}
		picks := x.picks(x.all())
		for i := 0; i < len(picks); i += 1 + len(picks)/40 {
			x.checkPick(t, picks[i], found)
		}
	}
	enough(t, found, 6, 10)
}

// checkPick checks what is said of pairs that make a ring or not.
func (x sample) checkPick(t *testing.T, pick []int, found map[string]int) {
	isNone := func(kinds []int) bool {
		var chosen []int
		for _, kind := range kinds {
			chosen = append(chosen, pick[kind])
		}
		return x.makesNone(x.picked(kinds, chosen))
	}
	var want []int
	wantValid, wantRing := api.OK, api.ErrClash
	if rings := slices.DeleteFunc(slices.Clone(x.lists()), isNone); len(rings) > 0 {
		want, wantValid, wantRing = ofLength(rings, shortest), api.ErrClash, api.OK
		found["ring of "+strings.Repeat("o", len(want))]++
		if !slices.Equal(want, rings[0]) {
			found["not the first ring"]++
		}
	}
	if e := crew.Valid(x.Crew, pick); e != wantValid {
		t.Errorf("Valid of %v, %v: %d, want %d", x.Crew, pick, e, wantValid)
	}
	if l, e := crew.Ring(x.Crew, pick); !slices.Equal(l, want) || e != wantRing {
		t.Errorf("Ring of %v, %v: %v %d, want %v %d", x.Crew, pick, l, e, want, wantRing)
	}
	for kind := range pick {
		for _, i := range list(-1, len(x.Kinds[kind])) {
			wrong := slices.Clone(pick)
			wrong[kind] = i
			l, e := crew.Ring(x.Crew, wrong)
			if valid := crew.Valid(x.Crew, wrong); valid != api.ErrNone || l != nil || e != api.ErrNone {
				t.Errorf("Valid and Ring of %v, %v: %d, %v %d", x.Crew, wrong, valid, l, e)
			}
		}
	}
}

// P10.6 and P10.9, by the definitions.
func TestAllMore(t *testing.T) {
	found := map[string]int{}
	for _, x := range crews() {
		together := x.together()
		for _, a := range x.lists() {
			for _, b := range x.lists() {
				want, wantError := x.more(together, a, b)
				if n, e := crew.More(x.Crew, a, b); n != want || e != wantError {
					t.Errorf("More of %v, %v, %v: %d %d, want %d %d", x.Crew, a, b, n, e, want, wantError)
				}
				switch {
				case wantError == api.ErrLost && len(b) <= len(a):
					found["lost and not more"]++
				case wantError == api.OK && want != without(b, a)[0]:
					found["not the first one"]++
				case wantError == api.OK:
					found["more"]++
				default:
					found["an error"]++
				}
			}
		}
	}
	enough(t, found, 4, 100)
}

// without returns what is in a list and not in another one.
func without(l, other []int) []int {
	return slices.DeleteFunc(slices.Clone(l), func(n int) bool { return slices.Contains(other, n) })
}

// sorted returns all that is in one of two lists, each once.
func sorted(a, b []int) []int {
	l := slices.Concat(a, b)
	slices.Sort(l)
	return slices.Compact(l)
}

// more is what More should return.
func (x sample) more(together [][]int, a, b []int) (int, api.Errno) {
	if !has(together, a) || !has(together, b) {
		return 0, api.ErrLost
	}
	if len(b) <= len(a) {
		return 0, api.ErrShape
	}
	for _, kind := range without(b, a) {
		if has(together, sorted(a, list(kind))) {
			return kind, api.OK
		}
	}
	panic("no kind is one more")
}

// P10.8 and P10.9: what the functions say agrees.
func TestMostIsRanks(t *testing.T) {
	found := map[string]int{}
	for _, x := range crews() {
		most := len(must(crew.Most(x.Crew)))
		least, blocked := x.many()+1, false
		for _, kinds := range x.lists() {
			bound := must(crew.Rank(x.Crew, kinds)) + x.many() - len(kinds)
			least = min(least, bound)
			blocked = blocked || crew.Proves(x.Crew, kinds) == api.OK
			if must(crew.Together(x.Crew, kinds)) && !x.canGrow(kinds) {
				found["cannot grow"]++
				if len(kinds) != most {
					t.Errorf("%v: none can be added to %v, but %d go together", x.Crew, kinds, most)
				}
			}
		}
		if most != least {
			t.Errorf("%v: Most has %d, but ranks say %d", x.Crew, most, least)
		}
		_, e := crew.First(x.Crew)
		if (e == api.ErrLost) != blocked || e != api.OK && e != api.ErrLost {
			t.Errorf("%v: First: %d, blocked: %v", x.Crew, e, blocked)
		}
		why, e := crew.Why(x.Crew)
		if (e == api.OK) != blocked || e == api.OK && crew.Proves(x.Crew, why) != api.OK {
			t.Errorf("%v: Why: %v %d, blocked: %v", x.Crew, why, e, blocked)
		}
		if blocked {
			found["blocked"]++
		} else {
			found["not blocked"]++
		}
	}
	enough(t, found, 3, 200)
}

// canGrow tells whether another kind goes together with some.
func (x sample) canGrow(kinds []int) bool {
	return slices.ContainsFunc(without(x.all(), kinds), func(kind int) bool {
		return must(crew.Together(x.Crew, sorted(kinds, list(kind))))
	})
}

// P10.10
func TestRanks(t *testing.T) {
	found := map[string]int{}
	for _, x := range crews() {
		rank := func(kinds []int) int { return must(crew.Rank(x.Crew, kinds)) }
		for i, a := range x.lists() {
			if rank(a) >= x.Sifters {
				t.Errorf("%v: the rank of %v is %d", x.Crew, a, rank(a))
			}
			for _, kind := range without(x.all(), a) {
				grown := rank(sorted(a, list(kind))) - rank(a)
				if grown < 0 || grown > len(x.Kinds[kind]) {
					t.Errorf("%v: the rank of %v grows by %d with %d", x.Crew, a, grown, kind)
				}
			}
			for _, b := range x.lists()[:i] {
				inBoth := without(a, without(a, b))
				together, apart := rank(sorted(a, b))+rank(inBoth), rank(a)+rank(b)
				if together > apart {
					t.Errorf("%v: ranks of %v and %v are %d together, and %d apart", x.Crew, a, b, together, apart)
				}
				if together < apart {
					found["less"]++
				} else {
					found["equal"]++
				}
			}
		}
	}
	enough(t, found, 2, 1000)
}

// P10.11
func TestHowMany(t *testing.T) {
	r := rand.New(rand.NewPCG(10, 1))
	for sifters, want := range map[int]int{2: 1, 3: 3 * 2, 4: 4 * 4 * 6} {
		for range 50 {
			c := crew.Crew{Sifters: sifters}
			for range sifters - 1 {
				c.Kinds = append(c.Kinds, shuffled(r, pairsOf(sifters)))
			}
			if n := must(crew.Count(c)); n != want {
				t.Errorf("Count of %v: %d, want %d", c, n, want)
			}
		}
	}
}

// renamed returns a crew in which sifters have other numbers, and kinds and pairs another order.
func renamed(r *rand.Rand, c crew.Crew) crew.Crew {
	names := r.Perm(c.Sifters)
	other := crew.Crew{Sifters: c.Sifters}
	for _, l := range shuffled(r, c.Kinds) {
		l = shuffled(r, l)
		for i, pair := range l {
			a, b := names[pair[0]], names[pair[1]]
			l[i] = [2]int{min(a, b), max(a, b)}
		}
		other.Kinds = append(other.Kinds, l)
	}
	return other
}

// P10.12
func TestOtherNames(t *testing.T) {
	r := rand.New(rand.NewPCG(10, 2))
	for _, x := range crews() {
		other := renamed(r, x.Crew)
		if a, b := must(crew.Count(x.Crew)), must(crew.Count(other)); a != b {
			t.Errorf("Count of %v: %d, but of %v: %d", x.Crew, a, other, b)
		}
		if a, b := must(crew.Most(x.Crew)), must(crew.Most(other)); len(a) != len(b) {
			t.Errorf("Most of %v: %v, but of %v: %v", x.Crew, a, other, b)
		}
		a, e := crew.Why(x.Crew)
		b, f := crew.Why(other)
		if len(a) != len(b) || e != f {
			t.Errorf("Why of %v: %v %d, but of %v: %v %d", x.Crew, a, e, other, b, f)
		}
	}
}

// P10.13
func TestMoreHelps(t *testing.T) {
	r := rand.New(rand.NewPCG(10, 3))
	found := map[string]int{}
	for _, x := range crews() {
		before := len(must(crew.Most(x.Crew)))
		check := func(name string, kinds [][][2]int) {
			after := len(must(crew.Most(crew.Crew{x.Sifters, kinds})))
			if after < before || after > before+1 {
				t.Errorf("%v: %d go together, and with %s, %v, %d do", x.Crew, before, name, kinds, after)
			}
			if after > before {
				name += " helps"
			}
			found[name]++
		}
		for kind, l := range x.Kinds {
			if len(l) == crew.MaxPairs {
				continue
			}
			for _, pair := range pairsOf(x.Sifters) {
				if !slices.Contains(l, pair) {
					kinds := slices.Clone(x.Kinds)
					kinds[kind] = slices.Insert(slices.Clone(l), r.IntN(len(l)+1), pair)
					check("a pair", kinds)
				}
			}
		}
		if x.many() < crew.MaxKinds {
			all := shuffled(r, pairsOf(x.Sifters))
			few := all[:r.IntN(min(len(all), crew.MaxPairs)+1)]
			check("a kind", slices.Insert(slices.Clone(x.Kinds), r.IntN(x.many()+1), few))
		}
	}
	enough(t, found, 4, 100)
}
