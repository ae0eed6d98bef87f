package says_test

import (
	"math"
	"slices"
	"testing"

	"breeze/api"
	"breeze/says"
)

func list(l ...int) []int { return l }

func lists(l ...[]int) [][]int { return l }

func sameLists(a, b [][]int) bool { return slices.EqualFunc(a, b, slices.Equal[[]int]) }

// must is a result that may not be refused.
func must[T any](result T, e api.Errno) T {
	if e != api.OK {
		panic(e)
	}
	return result
}

func sentence(given, then []int) says.Sentence { return says.Sentence{If: given, Then: then} }

func book(facts int, l ...says.Sentence) says.Book { return says.Book{Facts: facts, Sentences: l} }

// parts has the sets of sentences, one after the other.
func parts(l []says.Sentence) [][]int {
	var out [][]int
	for _, s := range l {
		out = append(out, s.If, s.Then)
	}
	return out
}

// The books B, C and D of the chapter's examples.

func bookB() says.Book {
	return book(3, sentence(list(0), list(1)), sentence(list(1), list(2)), sentence(list(0), list(2)))
}

func bookC() says.Book {
	return book(4, sentence(list(0, 1), list(2)), sentence(list(2), list(3)))
}

func bookD() says.Book { return book(2, sentence(nil, list(0))) }

// chain has six facts, of which each follows from the one before it, and the first one from none.
func chain() says.Book {
	b := book(6, sentence(nil, list(0)))
	for fact := 1; fact < 6; fact++ {
		b.Sentences = append(b.Sentences, sentence(list(fact-1), list(fact)))
	}
	return b
}

// many is a book of so many sentences that say nothing.
func many(sentences int) says.Book {
	return book(1, slices.Repeat([]says.Sentence{{}}, sentences)...)
}

func one(given, then []int) says.Book { return book(2, sentence(given, then)) }

// P6.1

var checks = []struct {
	name string
	b    says.Book
	want api.Errno
}{
	{"B", bookB(), api.OK},
	{"C", bookC(), api.OK},
	{"D", bookD(), api.OK},
	{"a chain", chain(), api.OK},
	{"no sentences", book(1), api.OK},
	{"six facts", book(6), api.OK},
	{"eight sentences", many(8), api.OK},
	{"empty sets", one(list(), list()), api.OK},
	{"Then is If", one(list(0, 1), list(0, 1)), api.OK},
	{"nothing", says.Book{}, api.ErrRange},
	{"-1 facts", book(-1), api.ErrRange},
	{"seven facts", book(7), api.ErrRange},
	{"most facts", book(math.MaxInt), api.ErrRange},
	{"least facts", book(math.MinInt), api.ErrRange},
	{"nine sentences", many(9), api.ErrMany},
	{"a thousand sentences", many(1000), api.ErrMany},
	{"seven facts, nine sentences", book(7, many(9).Sentences...), api.ErrRange},
	{"seven facts, a wrong sentence", book(7, sentence(list(9), nil)), api.ErrRange},
	{"nine wrong sentences", book(1, slices.Repeat([]says.Sentence{{If: list(9)}}, 9)...), api.ErrMany},
	{"0 > 2 of 2", one(list(0), list(2)), api.ErrNone},
	{"2 > 0 of 2", one(list(2), list(0)), api.ErrNone},
	{"-1 > none", one(list(-1), nil), api.ErrNone},
	{"none > -1", one(nil, list(-1)), api.ErrNone},
	{"greatest fact", one(list(math.MaxInt), nil), api.ErrNone},
	{"least fact", one(nil, list(math.MinInt)), api.ErrNone},
	{"1 of 1", book(1, sentence(list(1), nil)), api.ErrNone},
	{"1 0 > 1", one(list(1, 0), list(1)), api.ErrOrder},
	{"1 > 1 0", one(list(1), list(1, 0)), api.ErrOrder},
	{"0 0 > 1", one(list(0, 0), list(1)), api.ErrOrder},
	{"0 > 1 1", one(list(0), list(1, 1)), api.ErrOrder},
	// the first number with an error decides: If before Then, and one sentence before the next one
	{"1 0 2 >", one(list(1, 0, 2), nil), api.ErrOrder},
	{"1 2 0 >", one(list(1, 2, 0), nil), api.ErrNone},
	{"1 0 > 2", one(list(1, 0), list(2)), api.ErrOrder},
	{"2 > 1 0", one(list(2), list(1, 0)), api.ErrNone},
	{"none, then order", book(2, sentence(list(0), list(2)), sentence(list(1, 0), nil)), api.ErrNone},
	{"order, then none", book(2, sentence(list(0), list(1, 0)), sentence(list(2), nil)), api.ErrOrder},
	{"the last of eight", book(1, append(many(7).Sentences, sentence(nil, list(0, 0)))...), api.ErrOrder},
}

func TestCheck(t *testing.T) {
	for _, c := range checks {
		if e := says.Check(c.b); e != c.want {
			t.Errorf("%s: %d, want %d", c.name, e, c.want)
		}
	}
}

// sets are sets of three facts, and their errors.
var sets = []struct {
	set  []int
	want api.Errno
}{
	{nil, api.OK},
	{list(), api.OK},
	{list(0), api.OK},
	{list(0, 2), api.OK},
	{list(0, 1, 2), api.OK},
	{list(3), api.ErrNone},
	{list(-1), api.ErrNone},
	{list(0, 1, 2, 3), api.ErrNone},
	{list(math.MaxInt), api.ErrNone},
	{list(math.MinInt), api.ErrNone},
	{list(0, 0), api.ErrOrder},
	{list(1, 0), api.ErrOrder},
	{list(1, 0, 3), api.ErrOrder},
	{list(1, 3, 0), api.ErrNone},
	{make([]int, 1000), api.ErrOrder},
}

type result struct {
	is    bool
	lists [][]int
	e     api.Errno
}

func (r result) same(other result) bool {
	return r.is == other.is && sameLists(r.lists, other.lists) && r.e == other.e
}

// isZero tells whether there is nothing but an error.
func (r result) isZero() bool { return !r.is && len(slices.Concat(r.lists...)) == 0 }

func is(ok bool, e api.Errno) result             { return result{is: ok, e: e} }
func several(l [][]int, e api.Errno) result      { return result{lists: l, e: e} }
func single(l []int, e api.Errno) result         { return several(lists(l), e) }
func told(l []says.Sentence, e api.Errno) result { return several(parts(l), e) }
func nothing(e api.Errno) result                 { return result{e: e} }

// ofSet returns what all functions with a set say.
func ofSet(b says.Book, set []int, fact int, steps []int) map[string]result {
	return map[string]result{
		"Closed":  is(says.Closed(b, set)),
		"Follows": single(says.Follows(b, set)),
		"Steps":   single(says.Steps(b, set, fact)),
		"Goes":    single(says.Goes(b, set, steps)),
		"Open":    is(says.Open(b, set)),
		"Fewest":  single(says.Fewest(b, set)),
	}
}

// ofBook returns what all other functions say.
func ofBook(b says.Book) map[string]result {
	return map[string]result{
		"Check":       nothing(says.Check(b)),
		"All":         several(says.All(b)),
		"Base":        told(says.Base(b)),
		"Needless":    single(says.Needless(b)),
		"Same":        is(says.Same(b, b)),
		"Same with D": is(says.Same(b, bookD())),
	}
}

// All functions return Check's error before any of their own.
func TestCheckComesFirst(t *testing.T) {
	for _, c := range checks {
		if c.want == api.OK {
			continue
		}
		check := func(calls map[string]result) {
			for name, r := range calls {
				if !r.isZero() || r.e != c.want {
					t.Errorf("%s of %s: %v, want %d", name, c.name, r, c.want)
				}
			}
		}
		check(ofBook(c.b))
		for _, s := range sets {
			check(ofSet(c.b, s.set, 0, nil))
			check(ofSet(c.b, s.set, 9, list(9)))
		}
		if same, e := says.Same(bookB(), c.b); same || e != c.want {
			t.Errorf("Same of B and %s: %v %d, want %d", c.name, same, e, c.want)
		}
	}
}

// All functions with a set return its error before any of their own, but after Check's.
func TestSetComesNext(t *testing.T) {
	for _, s := range sets {
		for _, fact := range list(0, -1, 3) {
			for _, steps := range lists(nil, list(0), list(9)) {
				for name, r := range ofSet(bookB(), s.set, fact, steps) {
					if s.want != api.OK && (!r.isZero() || r.e != s.want) {
						t.Errorf("%s of %v, %d, %v: %v, want %d", name, s.set, fact, steps, r, s.want)
					}
				}
			}
		}
		for name, r := range ofSet(bookB(), s.set, 2, nil) {
			if s.want == api.OK && name != "Steps" && r.e != api.OK {
				t.Errorf("%s of %v: %v", name, s.set, r)
			}
		}
	}
}

// P6.2

func TestFollows(t *testing.T) {
	for _, c := range []struct {
		name      string
		b         says.Book
		set, want []int
	}{
		{"B", bookB(), list(0), list(0, 1, 2)},
		{"B", bookB(), list(1), list(1, 2)},
		{"B", bookB(), nil, nil},
		{"B", bookB(), list(0, 2), list(0, 1, 2)},
		{"C", bookC(), list(0, 1), list(0, 1, 2, 3)},
		{"C", bookC(), list(0, 3), list(0, 3)},
		{"C", bookC(), list(0, 2), list(0, 2, 3)},
		{"D", bookD(), nil, list(0)},
		{"D", bookD(), list(1), list(0, 1)},
		{"a chain", chain(), nil, list(0, 1, 2, 3, 4, 5)},
		// sentences that are in the wrong order to be gone through once
		{"a chain, turned", book(3, sentence(list(1), list(2)), sentence(list(0), list(1)), sentence(nil, list(0))), nil, list(0, 1, 2)},
		{"no sentences", book(6), list(2, 5), list(2, 5)},
		{"an empty Then", one(list(0), nil), list(0), list(0)},
	} {
		if l, e := says.Follows(c.b, c.set); !slices.Equal(l, c.want) || e != api.OK {
			t.Errorf("Follows of %s: %v: %v %d, want %v", c.name, c.set, l, e, c.want)
		}
		if closed, e := says.Closed(c.b, c.set); closed != slices.Equal(c.set, c.want) || e != api.OK {
			t.Errorf("Closed of %s: %v: %v %d", c.name, c.set, closed, e)
		}
		if closed, e := says.Closed(c.b, c.want); !closed || e != api.OK {
			t.Errorf("Closed of %s: %v: %v %d", c.name, c.want, closed, e)
		}
	}
}

func TestClosed(t *testing.T) {
	for _, c := range []struct {
		name string
		b    says.Book
		set  []int
		want bool
	}{
		{"B", bookB(), list(1, 2), true},
		{"B", bookB(), list(0, 1), false},
		{"D", bookD(), nil, false},
		{"D", bookD(), list(0), true},
		{"two facts", one(list(0), list(0, 1)), list(0), false},
	} {
		if closed, e := says.Closed(c.b, c.set); closed != c.want || e != api.OK {
			t.Errorf("Closed of %s: %v: %v %d, want %v", c.name, c.set, closed, e, c.want)
		}
	}
}

func TestAll(t *testing.T) {
	for _, c := range []struct {
		name string
		b    says.Book
		want [][]int
	}{
		{"B", bookB(), lists(nil, list(0, 1, 2), list(1, 2), list(2))},
		{"D", bookD(), lists(list(0), list(0, 1))},
		{"no sentences", book(2), lists(nil, list(0), list(0, 1), list(1))},
		{"a chain", chain(), lists(list(0, 1, 2, 3, 4, 5))},
		{"all or none", book(3, sentence(list(0), list(1)), sentence(list(1), list(2)), sentence(list(2), list(0))), lists(nil, list(0, 1, 2))},
	} {
		if l, e := says.All(c.b); !sameLists(l, c.want) || e != api.OK {
			t.Errorf("All of %s: %v %d, want %v", c.name, l, e, c.want)
		}
	}
}

// P6.3

func TestSteps(t *testing.T) {
	twice := book(3, sentence(list(0), list(1)), sentence(list(0), list(1)), sentence(list(1), list(2)))
	// 0 and 1 lead to the same facts as 1 and 0, and 3 comes to what neither of them does alone
	either := book(4, sentence(list(0), list(1)), sentence(list(0), list(2)), sentence(list(1, 2), list(3)), sentence(list(0, 1, 2), list(3)))
	for _, c := range []struct {
		name string
		b    says.Book
		set  []int
		fact int
		want []int
		e    api.Errno
	}{
		{"B", bookB(), list(0), 2, list(2), api.OK},
		{"B", bookB(), list(0), 0, nil, api.OK},
		{"B", bookB(), list(2), 0, nil, api.ErrLost},
		{"B", bookB(), nil, 0, nil, api.ErrLost},
		{"C", bookC(), list(0, 1), 3, list(0, 1), api.OK},
		{"C", bookC(), list(0, 1), 4, nil, api.ErrNone},
		{"C", bookC(), list(0), -1, nil, api.ErrNone},
		{"C", bookC(), nil, math.MaxInt, nil, api.ErrNone},
		{"C", bookC(), nil, math.MinInt, nil, api.ErrNone},
		{"D", bookD(), nil, 0, list(0), api.OK},
		{"D", bookD(), nil, 1, nil, api.ErrLost},
		{"a chain", chain(), nil, 5, list(0, 1, 2, 3, 4, 5), api.OK},
		{"a chain", chain(), list(3), 5, list(4, 5), api.OK},
		{"two equal sentences", twice, list(0), 2, list(0, 2), api.OK},
		{"either way", either, list(0), 3, list(0, 1, 2), api.OK},
		{"either way", either, list(0, 1, 2), 3, list(2), api.OK},
		// steps that come later are better if they are shorter
		{"shorter", book(3, sentence(list(0), list(1)), sentence(list(1), list(2)), sentence(nil, list(2))), list(0), 2, list(2), api.OK},
	} {
		if l, e := says.Steps(c.b, c.set, c.fact); !slices.Equal(l, c.want) || e != c.e {
			t.Errorf("Steps of %s: %v to %d: %v %d, want %v %d", c.name, c.set, c.fact, l, e, c.want, c.e)
		}
	}
}

func TestGoes(t *testing.T) {
	for _, c := range []struct {
		name             string
		b                says.Book
		set, steps, want []int
		e                api.Errno
	}{
		{"C", bookC(), list(0, 1), list(0, 1), list(0, 1, 2, 3), api.OK},
		{"C", bookC(), list(0, 1), list(1), nil, api.ErrLost},
		{"C", bookC(), list(0, 1), list(2), nil, api.ErrNone},
		{"C", bookC(), list(0, 1), list(-1), nil, api.ErrNone},
		{"C", bookC(), list(0, 1), list(0, math.MaxInt), nil, api.ErrNone},
		{"C", bookC(), list(0, 1), list(math.MinInt), nil, api.ErrNone},
		{"C", bookC(), list(0, 1), list(1, 2), nil, api.ErrLost},
		{"C", bookC(), list(0, 1), list(2, 1), nil, api.ErrNone},
		{"C", bookC(), list(0, 1), nil, list(0, 1), api.OK},
		{"C", bookC(), nil, nil, nil, api.OK},
		{"C", bookC(), list(0, 1), list(0), list(0, 1, 2), api.OK},
		{"C", bookC(), list(0, 1), list(0, 0, 1, 0, 1), list(0, 1, 2, 3), api.OK},
		{"C", bookC(), list(0, 1), slices.Repeat(list(0, 1), 1000), list(0, 1, 2, 3), api.OK},
		{"C", bookC(), list(0), list(0), nil, api.ErrLost},
		{"C", bookC(), list(2), list(1), list(2, 3), api.OK},
		{"D", bookD(), nil, list(0), list(0), api.OK},
		{"no sentences", book(2), list(1), list(0), nil, api.ErrNone},
	} {
		if l, e := says.Goes(c.b, c.set, c.steps); !slices.Equal(l, c.want) || e != c.e {
			t.Errorf("Goes of %s: %v by %v: %v %d, want %v %d", c.name, c.set, c.steps, l, e, c.want, c.e)
		}
	}
}

// P6.4

func TestOpen(t *testing.T) {
	for _, c := range []struct {
		name string
		b    says.Book
		set  []int
		want bool
	}{
		{"B", bookB(), list(0), true},
		{"B", bookB(), list(0, 1), false},
		{"B", bookB(), list(1, 2), false},
		{"B", bookB(), list(1), true},
		{"B", bookB(), nil, false},
		{"C", bookC(), list(0, 1), true},
		{"C", bookC(), list(0, 1, 2), false},
		{"D", bookD(), nil, true},
		{"D", bookD(), list(1), false},
		// 0 1 has all that follows from the open set 0
		{"more", book(3, sentence(list(0), list(1)), sentence(list(0, 1), list(2))), list(0, 1), false},
		{"more", book(4, sentence(list(0), list(1)), sentence(list(0, 2), list(3))), list(0, 2), false},
		{"more", book(4, sentence(list(0), list(1)), sentence(list(0, 2), list(3))), list(0, 1, 2), true},
	} {
		if open, e := says.Open(c.b, c.set); open != c.want || e != api.OK {
			t.Errorf("Open of %s: %v: %v %d, want %v", c.name, c.set, open, e, c.want)
		}
	}
}

func TestBase(t *testing.T) {
	for _, c := range []struct {
		name string
		b    says.Book
		want [][]int
	}{
		{"B", bookB(), lists(list(0), list(1, 2), list(1), list(2))},
		{"C", bookC(), lists(list(0, 1), list(2, 3), list(2), list(3))},
		{"D", bookD(), lists(nil, list(0))},
		{"no sentences", book(6), nil},
		{"a needless sentence", one(list(0, 1), list(0)), nil},
		{"an If that is not open", book(4, sentence(list(0), list(1)), sentence(list(0, 2), list(3))), lists(list(0), list(1), list(0, 1, 2), list(3))},
		{"a chain", chain(), lists(nil, list(0, 1, 2, 3, 4, 5))},
	} {
		if l, e := says.Base(c.b); !sameLists(parts(l), c.want) || e != api.OK {
			t.Errorf("Base of %s: %v %d, want %v", c.name, l, e, c.want)
		}
	}
}

// P6.5

func TestNeedless(t *testing.T) {
	for _, c := range []struct {
		name string
		b    says.Book
		want []int
	}{
		{"B", bookB(), list(2)},
		{"C", bookC(), nil},
		{"D", bookD(), nil},
		{"a chain", chain(), nil},
		{"no sentences", book(1), nil},
		// each of two equal sentences is needless, as long as the other one is there
		{"twice", book(2, sentence(list(0), list(1)), sentence(list(0), list(1))), list(0, 1)},
		{"three times", book(2, slices.Repeat([]says.Sentence{sentence(nil, list(1))}, 3)...), list(0, 1, 2)},
		{"an empty Then", one(list(0), nil), list(0)},
		{"a Then that is in If", one(list(0, 1), list(1)), list(0)},
		{"less of the same", book(3, sentence(list(0), list(1, 2)), sentence(list(0), list(2)), sentence(list(0, 1), list(2))), list(1, 2)},
		{"eight that say nothing", many(8), list(0, 1, 2, 3, 4, 5, 6, 7)},
	} {
		if l, e := says.Needless(c.b); !slices.Equal(l, c.want) || e != api.OK {
			t.Errorf("Needless of %s: %v %d, want %v", c.name, l, e, c.want)
		}
	}
}

func TestFewest(t *testing.T) {
	rings := book(4, sentence(list(0), list(1)), sentence(list(1), list(0)), sentence(list(0, 2), list(3)), sentence(list(3), list(0, 2)))
	for _, c := range []struct {
		name      string
		b         says.Book
		set, want []int
	}{
		{"C", bookC(), list(0, 1, 2), list(0, 1)},
		{"C", bookC(), list(2, 3), list(2)},
		{"C", bookC(), list(3), list(3)},
		{"B", bookB(), list(0, 2), list(0)},
		{"B", bookB(), nil, nil},
		{"D", bookD(), list(0), nil},
		{"D", bookD(), list(0, 1), list(1)},
		// the set of fewest facts need not be a part of the other one
		{"rings", rings, list(1), list(0)},
		{"rings", rings, list(1, 2), list(3)},
		{"no sentences", book(6), list(1, 3, 5), list(1, 3, 5)},
	} {
		if l, e := says.Fewest(c.b, c.set); !slices.Equal(l, c.want) || e != api.OK {
			t.Errorf("Fewest of %s: %v: %v %d, want %v", c.name, c.set, l, e, c.want)
		}
	}
}

// P6.6

func TestSame(t *testing.T) {
	short := book(3, bookB().Sentences[:2]...)
	for _, c := range []struct {
		name string
		a, b says.Book
		want bool
		e    api.Errno
	}{
		{"B and its base", bookB(), book(3, must(says.Base(bookB()))...), true, api.OK},
		{"B and C", bookB(), bookC(), false, api.ErrShape},
		{"C and B", bookC(), bookB(), false, api.ErrShape},
		{"B and its first sentence", bookB(), book(3, bookB().Sentences[0]), false, api.OK},
		{"B without its last sentence", short, bookB(), true, api.OK},
		{"two that say nothing", book(2), one(list(0), list(0)), true, api.OK},
		{"nothing, of more facts", book(2), book(3), false, api.ErrShape},
		{"wrong, and B", book(3, sentence(list(3), nil)), bookB(), false, api.ErrNone},
		{"B, and wrong", bookB(), book(3, sentence(list(1, 0), nil)), false, api.ErrOrder},
		{"two wrong ones", book(3, sentence(list(1, 0), nil)), book(3, sentence(list(3), nil)), false, api.ErrOrder},
		{"two others", book(3, sentence(list(3), nil)), book(7), false, api.ErrNone},
		{"wrong before shape", bookB(), book(7), false, api.ErrRange},
		{"wrong before shape, turned", many(9), bookB(), false, api.ErrMany},
	} {
		if same, e := says.Same(c.a, c.b); same != c.want || e != c.e {
			t.Errorf("Same of %s: %v %d, want %v %d", c.name, same, e, c.want, c.e)
		}
	}
}

// P1: each function ends, does not panic, and returns the same for the same arguments.
func TestAllArguments(t *testing.T) {
	wrong := book(3, sentence(list(math.MaxInt, math.MinInt), list(-1, 7)), sentence(make([]int, 1000), nil))
	steps := lists(nil, list(0), list(1, 0), list(0, 1, 2, 3, 4, 5), list(9), list(-1), make([]int, 1000), list(math.MinInt, math.MaxInt))
	for _, b := range []says.Book{{}, bookB(), bookC(), bookD(), chain(), many(8), many(1000), book(6), book(math.MinInt), wrong} {
		check := func(a, b map[string]result, arguments ...any) {
			for name := range a {
				if !a[name].same(b[name]) || a[name].e != api.OK && !a[name].isZero() {
					t.Errorf("%s of %v: %v, then %v", name, arguments, a[name], b[name])
				}
			}
		}
		check(ofBook(b), ofBook(b), b)
		for _, s := range sets {
			for _, l := range steps {
				for _, fact := range list(0, 1, 5, 6, -1, math.MaxInt, math.MinInt) {
					check(ofSet(b, s.set, fact, l), ofSet(b, s.set, fact, l), b, s.set, fact, l)
				}
			}
		}
	}
}

// R4: what a caller does with a result changes nothing else.
func TestMemory(t *testing.T) {
	b, set, steps := chain(), list(0, 3), list(1, 4, 5)
	for name, f := range map[string]func() [][]int{
		"Follows":  func() [][]int { return lists(must(says.Follows(b, set))) },
		"All":      func() [][]int { return must(says.All(b)) },
		"Steps":    func() [][]int { return lists(must(says.Steps(b, set, 5))) },
		"Goes":     func() [][]int { return lists(must(says.Goes(b, set, steps))) },
		"no steps": func() [][]int { return lists(must(says.Goes(b, set, nil))) },
		"Base":     func() [][]int { return parts(must(says.Base(b))) },
		"Needless": func() [][]int { return lists(must(says.Needless(many(8)))) },
		"Fewest":   func() [][]int { return lists(must(says.Fewest(book(6), set))) },
	} {
		before, want := f(), f()
		for i, l := range before {
			for k := range l[:cap(l)] {
				l[:cap(l)][k] = -1
			}
			if !sameLists(before[i+1:], want[i+1:]) {
				t.Errorf("%s: %v after list %d was changed, want %v", name, before, i, want)
			}
		}
		if got := f(); !sameLists(got, want) {
			t.Errorf("%s: %v after its result was changed, want %v", name, got, want)
		}
	}
	if !sameLists(parts(b.Sentences), parts(chain().Sentences)) || !slices.Equal(set, list(0, 3)) || !slices.Equal(steps, list(1, 4, 5)) {
		t.Errorf("an argument was changed: %v %v %v", b, set, steps)
	}
}

// What lies behind an argument in its memory is not written to.
func TestMemoryBehindArguments(t *testing.T) {
	memory := list(0, 1, 1, 2, 0, 2, 0, 1, 9, 9)
	sentences := []says.Sentence{sentence(memory[:1], memory[1:2]), sentence(memory[2:3], memory[3:4]), sentence(memory[4:5], memory[5:6]), {If: list(9)}}
	b := book(3, sentences[:3]...)
	ofBook(b)
	ofSet(b, memory[:1], 2, memory[6:8])
	if !slices.Equal(memory, list(0, 1, 1, 2, 0, 2, 0, 1, 9, 9)) || !slices.Equal(sentences[3].If, list(9)) {
		t.Errorf("changed: %v %v", memory, sentences)
	}
	if !sameLists(parts(b.Sentences), parts(bookB().Sentences)) {
		t.Errorf("changed: %v", b)
	}
}
