package rag_test

import (
	"maps"
	"math/rand/v2"
	"slices"
	"strings"
	"testing"

	"breeze/api"
	"breeze/rag"
)

// inBoth returns the kinds of a set that are in another one, too.
func inBoth(set, other string) string {
	return strings.Map(func(kind rune) rune {
		if !strings.ContainsRune(other, kind) {
			return -1
		}
		return kind
	}, set)
}

// without returns the kinds of a set that are not in another one.
func without(set, other string) string {
	return strings.Map(func(kind rune) rune {
		if strings.ContainsRune(other, kind) {
			return -1
		}
		return kind
	}, set)
}

// together returns all kinds of two sets, each once.
func together(set, other string) string {
	kinds := []byte(set + without(other, set))
	slices.Sort(kinds)
	return string(kinds)
}

// partsOf returns all parts of a set in ascending order.
func partsOf(set string) []string {
	parts := list("")
	for _, kind := range set {
		for _, part := range slices.Clone(parts) {
			parts = append(parts, part+string(kind))
		}
	}
	slices.Sort(parts)
	return parts
}

// allKinds are the kinds of a sample.
func (x sample) allKinds() string { return "abcde"[:x.kinds] }

func (x sample) has(set string) bool { return slices.Contains(x.bags, set) }

// that returns, in ascending order, the sets of kinds of which something is true.
func (x sample) that(isTrue func(string) bool) []string {
	isNot := func(set string) bool { return !isTrue(set) }
	return slices.DeleteFunc(partsOf(x.allKinds()), isNot)
}

// isTrace tells whether one of the bags has a part of a set, and no other kind of the set, by the definition.
func (x sample) isTrace(set, part string) bool {
	return slices.ContainsFunc(x.bags, func(bag string) bool { return inBoth(bag, set) == part })
}

// missing returns the parts of a set that are no traces, in ascending order.
func (x sample) missing(set string) []string {
	return slices.DeleteFunc(partsOf(set), func(part string) bool { return x.isTrace(set, part) })
}

// isApart tells whether bags tell a set apart, by the definition.
func (x sample) isApart(set string) bool { return len(x.missing(set)) == 0 }

// isCube tells whether bags tell a set apart with the same rest, by the definition.
func (x sample) isCube(set string) bool {
	return slices.ContainsFunc(partsOf(without(x.allKinds(), set)), func(rest string) bool {
		isNone := func(part string) bool { return !x.has(together(rest, part)) }
		return !slices.ContainsFunc(partsOf(set), isNone)
	})
}

// lowered returns bags, lowered by a kind, in ascending order, by the definition.
func (x sample) lowered(kind rune) sample {
	low := sample{kinds: x.kinds}
	for _, bag := range x.bags {
		if less := without(bag, string(kind)); !x.has(less) {
			bag = less
		}
		low.bags = append(low.bags, bag)
	}
	slices.Sort(low.bags)
	return low
}

// lowest returns bags, lowered until nothing changes.
func (x sample) lowest() sample {
	x.bags = slices.Sorted(slices.Values(x.bags))
	for unchanged := 0; unchanged < x.kinds; {
		for _, kind := range x.allKinds() {
			unchanged++
			if low := x.lowered(kind); !slices.Equal(low.bags, x.bags) {
				x, unchanged = low, 0
			}
		}
	}
	return x
}

func shuffled(r *rand.Rand, l []string) []string {
	l = slices.Clone(l)
	r.Shuffle(len(l), func(i, k int) { l[i], l[k] = l[k], l[i] })
	return l
}

// some returns some of several sets.
func some(r *rand.Rand, sets []string) []string { return shuffled(r, sets)[:r.IntN(len(sets)+1)] }

// drawn returns bags of so many kinds: any ones, or those with few kinds, or all of some cubes, without some of them.
func drawn(r *rand.Rand, kinds int) sample {
	x := sample{kinds: kinds}
	sets := partsOf(x.allKinds())
	switch r.IntN(4) {
	case 0:
		most := r.IntN(kinds)
		sets = slices.DeleteFunc(sets, func(set string) bool { return len(set) > most })
	case 1, 2:
		in := map[string]bool{}
		for range 1 + r.IntN(4) {
			set, other := sets[r.IntN(len(sets))], sets[r.IntN(len(sets))]
			for _, part := range partsOf(set) {
				in[together(part, without(other, set))] = true
			}
		}
		sets = slices.DeleteFunc(sets, func(set string) bool { return !in[set] })
	}
	if r.IntN(2) == 0 {
		x.bags = shuffled(r, sets)
	} else {
		x.bags = some(r, sets)
	}
	return x
}

// samples returns all bags of up to three kinds, each in one order that is drawn, and some of four and of five kinds.
func samples() []sample {
	r := rand.New(rand.NewPCG(11, 0))
	var out []sample
	for kinds := 1; kinds <= 3; kinds++ {
		sets := partsOf("abc"[:kinds])
		for bits := range 1 << len(sets) {
			var in []string
			for i, set := range sets {
				if bits>>i&1 == 1 {
					in = append(in, set)
				}
			}
			out = append(out, sample{kinds, shuffled(r, in)})
		}
	}
	for i := range 2000 {
		out = append(out, drawn(r, 4+i%2))
	}
	return out
}

func enough(t *testing.T, found map[string]int, kinds, least int) {
	t.Helper()
	if len(found) < kinds || slices.Min(slices.Collect(maps.Values(found))) < least {
		t.Errorf("too few samples: %v", found)
	}
}

// wrong is the error of a text that should be a set of so many kinds, as the chapter describes it.
func wrong(kinds int, text string) api.Errno {
	for i := range len(text) {
		switch {
		case text[i] < 'a' || int(text[i]) >= 'a'+kinds:
			return api.ErrNone
		case i > 0 && text[i-1] >= text[i]:
			return api.ErrOrder
		}
	}
	return api.OK
}

// expected is the error of bags, as the chapter describes it.
func expected(kinds int, bags []string) api.Errno {
	for i, bag := range bags {
		if e := wrong(kinds, bag); e != api.OK {
			return e
		}
		if slices.Index(bags, bag) < i {
			return api.ErrTwice
		}
	}
	return api.OK
}

// texts returns all texts of up to so many letters.
func texts(letters string, many int) []string {
	out := list("")
	for begin := 0; many > 0; many-- {
		end := len(out)
		for _, text := range out[begin:end] {
			for _, letter := range letters {
				out = append(out, text+string(letter))
			}
		}
		begin = end
	}
	return out
}

// P11.1: all bags with up to four of some letters, and all lists of two or three with fewer.
func TestAllTexts(t *testing.T) {
	found := map[api.Errno]int{}
	check := func(bags ...string) {
		for kinds := 1; kinds <= 4; kinds++ {
			want := expected(kinds, bags)
			if e := rag.Check(kinds, bags); e != want {
				t.Errorf("Check of %d, %q: %d, want %d", kinds, bags, e, want)
			}
			found[want]++
		}
	}
	for _, bag := range texts("abcd`é", 4) {
		check(bag)
		set := bag
		for kinds := 1; kinds <= 4; kinds++ {
			want, x := wrong(kinds, set), sample{kinds, list("a", "")}
			for name, r := range ofSet(x, set, "?") {
				if want != api.OK && (r.e != want || !r.isZero()) {
					t.Errorf("%s of %v, %q: %v, want %d", name, x, set, r, want)
				}
			}
			if e := rag.Proves(kinds, x.bags, "", set); want != api.OK && e != want {
				t.Errorf("Proves of %v: %q: %d, want %d", x, set, e, want)
			}
		}
	}
	for _, bag := range texts("abcd", 2) {
		for _, other := range texts("abcd", 2) {
			check(bag, other)
			for _, third := range texts("abé", 2) {
				check(bag, other, third)
			}
		}
	}
	if len(found) != 4 || slices.Min(slices.Collect(maps.Values(found))) < 100 {
		t.Errorf("samples: %v", found)
	}
}

// P11.2 to P11.4 and P11.6, by the definitions.
func TestAllSets(t *testing.T) {
	found := map[string]int{}
	for _, x := range samples() {
		compare := func(name string, got result, want []string) {
			if !got.same(several(want, api.OK)) {
				t.Errorf("%s of %v: %v, want %v", name, x, got, want)
			}
		}
		compare("Tidy", several(rag.Tidy(x.kinds, x.bags)), x.that(x.has))
		compare("Rest", several(rag.Rest(x.kinds, x.bags)), x.that(func(set string) bool { return !x.has(set) }))
		compare("Apart", several(rag.Apart(x.kinds, x.bags)), x.that(x.isApart))
		compare("Cubes", several(rag.Cubes(x.kinds, x.bags)), x.that(x.isCube))
		for i, kind := range x.allKinds() {
			low := x.lowered(kind)
			compare("Lower by "+string(kind), several(rag.Lower(x.kinds, x.bags, i)), low.bags)
			if slices.Equal(low.bags, x.that(x.has)) {
				found["not lowered by a kind"]++
			}
		}
		compare("Lowest", several(rag.Lowest(x.kinds, x.bags)), x.lowest().bags)
		want, has := number(0, api.ErrEmpty), "no bags"
		for _, set := range x.that(x.isApart) {
			want.n, want.e = max(want.n, len(set)), api.OK
			has = "largest " + strings.Repeat("o", want.n)
		}
		if r := number(rag.Largest(x.kinds, x.bags)); !r.same(want) {
			t.Errorf("Largest of %v: %v, want %v", x, r, want)
		}
		found[has]++
	}
	enough(t, found, 8, 3)
}

// P11.3 and P11.5, by the definitions.
func TestAllTraces(t *testing.T) {
	found := map[string]int{}
	for _, x := range samples() {
		for _, set := range partsOf(x.allKinds()) {
			missing := x.missing(set)
			traces := slices.DeleteFunc(partsOf(set), func(part string) bool { return slices.Contains(missing, part) })
			if r := several(rag.Traces(x.kinds, x.bags, set)); !r.same(several(traces, api.OK)) {
				t.Errorf("Traces of %v: %q: %v, want %v", x, set, r, traces)
			}
			want, kind := one("", api.ErrClash), "apart"
			if len(missing) > 0 {
				want, kind = one(missing[0], api.OK), "missing "+strings.Repeat("o", len(missing[0]))
			}
			if r := one(rag.Missing(x.kinds, x.bags, set)); !r.same(want) {
				t.Errorf("Missing of %v: %q: %v, want %v", x, set, r, want)
			}
			found[kind]++
			for _, part := range partsOf(x.allKinds()) {
				want, kind := api.ErrProof, "wrong proof"
				if slices.Contains(missing, part) {
					want, kind = api.OK, "proof"
				}
				if e := rag.Proves(x.kinds, x.bags, set, part); e != want {
					t.Errorf("Proves of %v and %q: %q: %d, want %d", x, set, part, e, want)
				}
				found[kind]++
			}
		}
	}
	enough(t, found, 9, 10)
}

// P11.7, by the definition.
func TestAllBounds(t *testing.T) {
	for kinds := 1; kinds <= rag.MaxKinds; kinds++ {
		for most := range kinds + 1 {
			small := sample{kinds: kinds}.that(func(set string) bool { return len(set) <= most })
			if n := must(rag.Bound(kinds, most)); n != len(small) {
				t.Errorf("Bound of %d: %d: %d, want %d", kinds, most, n, len(small))
			}
		}
	}
}

// P11.8 and P11.9
func TestHowMany(t *testing.T) {
	found := map[string]int{}
	for _, x := range samples() {
		apart, cubes := must(rag.Apart(x.kinds, x.bags)), must(rag.Cubes(x.kinds, x.bags))
		if len(apart) < len(x.bags) || len(cubes) > len(x.bags) {
			t.Errorf("%v: %v are told apart, with the same rest %v", x, apart, cubes)
		}
		for _, set := range cubes {
			if !slices.Contains(apart, set) {
				t.Errorf("%v: %q is told apart with the same rest, and is not told apart", x, set)
			}
		}
		count(found, "just as many apart", len(apart) == len(x.bags))
		count(found, "just as many cubes", len(cubes) == len(x.bags))
		largest, e := rag.Largest(x.kinds, x.bags)
		if e != api.OK {
			continue
		}
		bound := must(rag.Bound(x.kinds, largest))
		if len(x.bags) > bound {
			t.Errorf("%v: more than %d bags, though no more than %d kinds are told apart", x, bound, largest)
		}
		count(found, "just as many as can be", len(x.bags) == bound)
	}
	enough(t, found, 6, 100)
}

// count counts what is true, and what is not.
func count(found map[string]int, name string, isTrue bool) {
	if !isTrue {
		name = "not " + name
	}
	found[name]++
}

// P11.10
func TestLowered(t *testing.T) {
	found := map[string]int{}
	for _, x := range samples() {
		lowest, apart := must(rag.Lowest(x.kinds, x.bags)), must(rag.Apart(x.kinds, x.bags))
		if len(lowest) != len(x.bags) {
			t.Errorf("%v: lowered %v", x, lowest)
		}
		for _, bag := range lowest {
			for _, part := range partsOf(bag) {
				if !slices.Contains(lowest, part) {
					t.Errorf("%v: %q is not one of the lowered bags %v", x, part, lowest)
				}
			}
			if !slices.Contains(apart, bag) {
				t.Errorf("%v: the lowered bag %q is not told apart", x, bag)
			}
		}
		if l := must(rag.Apart(x.kinds, lowest)); !slices.Equal(l, lowest) {
			t.Errorf("%v: the lowered bags %v tell apart %v", x, lowest, l)
		}
		for kind := range x.kinds {
			if l := must(rag.Lower(x.kinds, x.bags, kind)); len(l) != len(x.bags) || rag.Check(x.kinds, l) != api.OK {
				t.Errorf("%v: lowered by %d: %v", x, kind, l)
			}
			if l := must(rag.Lower(x.kinds, lowest, kind)); !slices.Equal(l, lowest) {
				t.Errorf("%v: the lowered bags %v are lowered by %d: %v", x, lowest, kind, l)
			}
		}
		count(found, "changed", !slices.Equal(lowest, x.that(x.has)))
	}
	enough(t, found, 2, 100)
}

// P11.11
func TestTheRest(t *testing.T) {
	found := map[string]int{}
	for _, x := range samples() {
		rest := must(rag.Rest(x.kinds, x.bags))
		apart, cubes := must(rag.Apart(x.kinds, x.bags)), must(rag.Cubes(x.kinds, rest))
		for _, set := range partsOf(x.allKinds()) {
			isApart, isCube := slices.Contains(apart, set), slices.Contains(cubes, without(x.allKinds(), set))
			if isApart == isCube {
				t.Errorf("%v: %q is told apart: %v, all other kinds with the same rest by the rest: %v", x, set, isApart, isCube)
			}
			count(found, "apart", isApart)
		}
		if l := must(rag.Rest(x.kinds, rest)); !slices.Equal(l, must(rag.Tidy(x.kinds, x.bags))) {
			t.Errorf("%v: the rest of the rest is %v", x, l)
		}
	}
	enough(t, found, 2, 1000)
}

// renamed returns a set in which kinds have changed places.
func renamed(set string, places []int) string {
	var out string
	for _, kind := range set {
		out = together(out, string('a'+rune(places[kind-'a'])))
	}
	return out
}

// P11.12
func TestOtherNames(t *testing.T) {
	r := rand.New(rand.NewPCG(11, 1))
	for _, x := range samples() {
		var changed, turned []string
		places := r.Perm(x.kinds)
		for _, bag := range shuffled(r, x.bags) {
			changed = append(changed, renamed(bag, places))
			turned = append(turned, without(x.allKinds(), bag))
		}
		apart := must(rag.Apart(x.kinds, x.bags))
		if l := must(rag.Apart(x.kinds, turned)); !slices.Equal(l, apart) {
			t.Errorf("%v: %v are told apart, with the other kinds in each bag %v", x, apart, l)
		}
		var want []string
		for _, set := range apart {
			want = append(want, renamed(set, places))
		}
		slices.Sort(want)
		if l := must(rag.Apart(x.kinds, changed)); !slices.Equal(l, want) {
			t.Errorf("%v, kinds to places %v: %v are told apart, want %v", x, places, l, want)
		}
	}
}

// P11.13
func TestMoreHelps(t *testing.T) {
	r := rand.New(rand.NewPCG(11, 2))
	found := map[string]int{}
	for _, x := range samples() {
		apart := must(rag.Apart(x.kinds, x.bags))
		for _, set := range apart {
			for _, part := range partsOf(set) {
				if !slices.Contains(apart, part) {
					t.Errorf("%v: %q is told apart, and %q is not", x, set, part)
				}
			}
		}
		rest := must(rag.Rest(x.kinds, x.bags))
		for _, more := range [][]string{rest[:min(1, len(rest))], some(r, rest)} {
			bags := shuffled(r, slices.Concat(x.bags, more))
			after := must(rag.Apart(x.kinds, bags))
			for _, set := range apart {
				if !slices.Contains(after, set) {
					t.Errorf("%v: %q is told apart, but not with more bags: %v", x, set, bags)
				}
			}
			count(found, "more", len(after) > len(apart))
		}
	}
	enough(t, found, 2, 100)
}
