package rag_test

import (
	"math"
	"slices"
	"strings"
	"testing"
	"unsafe"

	"breeze/api"
	"breeze/rag"
)

func list(l ...string) []string { return l }

// must is a result that may not be refused.
func must[T any](result T, e api.Errno) T {
	if e != api.OK {
		panic(e)
	}
	return result
}

// equal are so many equal texts.
func equal(many int, text string) []string { return slices.Repeat(list(text), many) }

// long is a text of so many equal letters.
func long(letter string) string { return strings.Repeat(letter, 1000000) }

// sample is bags of so many kinds.
type sample struct {
	kinds int
	bags  []string
}

// bags reads bags as they are written here: with a place between them, and - for the empty one.
func bags(kinds int, text string) sample {
	x := sample{kinds: kinds}
	for _, bag := range strings.Fields(text) {
		x.bags = append(x.bags, strings.ReplaceAll(bag, "-", ""))
	}
	return x
}

// The bags A, B and C of the chapter's examples.

func bagsA() sample { return bags(2, "- a ab") }

func bagsB() sample { return bags(2, "a b") }

func bagsC() sample { return bags(3, "ab ac bc abc") }

// none has no bags.
func none() sample { return bags(2, "") }

// greatest has as many kinds and bags as there can be, in descending order.
func greatest() sample {
	return bags(5, "e de d ce cde cd c be bde bd bce bcde bcd bc b ae ade ad ace acde acd ac abe abde abd abce abcde abcd abc ab a -")
}

// crossed has two cubes with different rests.
func crossed() sample { return bags(4, "abd c - acd bcd ac bc abcd d") }

func valid() []sample {
	return []sample{bagsA(), bagsB(), bagsC(), none(), greatest(), crossed(), bags(1, ""), bags(1, "a"), bags(1, "a -"), bags(5, "abcde")}
}

// P11.1

var checks = []struct {
	name  string
	kinds int
	bags  []string
	want  api.Errno
}{
	{"A", 2, bagsA().bags, api.OK},
	{"B", 2, bagsB().bags, api.OK},
	{"C", 3, bagsC().bags, api.OK},
	{"no bags", 2, nil, api.OK},
	{"an empty list of bags", 5, list(), api.OK},
	{"five kinds, 32 bags", 5, greatest().bags, api.OK},
	{"one kind", 1, list("a", ""), api.OK},
	{"the last one of two kinds", 2, list("b"), api.OK},
	{"the last one of five kinds", 5, list("e"), api.OK},
	{"all of five kinds", 5, list("abcde"), api.OK},
	{"some of five kinds", 5, list("ace", "bd", "ae"), api.OK},
	{"one empty bag", 3, list(""), api.OK},
	{"bags in any order", 3, list("c", "ab", "", "b", "abc"), api.OK},
	{"0 kinds", 0, nil, api.ErrRange},
	{"0 kinds, and an empty bag", 0, list(""), api.ErrRange},
	{"6 kinds", 6, nil, api.ErrRange},
	{"6 kinds, and one of them", 6, list("f"), api.ErrRange},
	{"-1 kinds", -1, nil, api.ErrRange},
	{"the greatest number of kinds", math.MaxInt, list("a"), api.ErrRange},
	{"the least number of kinds", math.MinInt, list("a"), api.ErrRange},
	{"6 kinds, and 33 bags", 6, equal(33, ""), api.ErrRange},
	{"0 kinds, and a bag twice", 0, equal(2, "a"), api.ErrRange},
	{"26 kinds, and a wrong order", 26, list("zy"), api.ErrRange},
	{"33 bags", 5, append(greatest().bags, "a"), api.ErrMany},
	{"33 empty bags", 1, equal(33, ""), api.ErrMany},
	{"33 bags, and no such kind", 5, append(greatest().bags, "f"), api.ErrMany},
	{"33 bags, and a wrong order", 5, append(list("ba"), greatest().bags...), api.ErrMany},
	{"a thousand bags", 5, equal(1000, "é"), api.ErrMany},
	{"32 equal bags", 5, equal(32, "a"), api.ErrTwice},
	{"c of two kinds", 2, list("c"), api.ErrNone},
	{"b of one kind", 1, list("b"), api.ErrNone},
	{"f of five kinds", 5, list("f"), api.ErrNone},
	{"z of five kinds", 5, list("z"), api.ErrNone},
	{"what is before a", 5, list("`"), api.ErrNone},
	{"a great letter", 5, list("A"), api.ErrNone},
	{"a digit", 5, list("0"), api.ErrNone},
	{"a place", 5, list(" "), api.ErrNone},
	{"a place behind a", 5, list("a "), api.ErrNone},
	{"a byte 0", 5, list("\x00"), api.ErrNone},
	{"a letter of two bytes", 2, list("é"), api.ErrNone},
	{"a letter of two bytes behind a", 2, list("aé"), api.ErrNone},
	{"a letter of three bytes", 5, list("ａ"), api.ErrNone},
	{"bytes that are no letter", 5, list("\xff"), api.ErrNone},
	{"bytes that are no letter behind a", 5, list("a\xc3"), api.ErrNone},
	{"a byte that ends a letter", 5, list("\xa9"), api.ErrNone},
	// letters whose numbers end with the byte, or the two bytes, of a
	{"letter 161 of 5", 5, list("\u0161"), api.ErrNone},
	{"letter 6161 of 5", 5, list("\u6161"), api.ErrNone},
	{"letter 10061 of 5", 5, list("\U00010061"), api.ErrNone},
	{"the greatest letter", 5, list("\U0010ffff"), api.ErrNone},
	{"the last letter is no kind", 4, list("abcde"), api.ErrNone},
	{"a long text of no kind", 1, list(long("b")), api.ErrNone},
	{"ba", 2, list("ba"), api.ErrOrder},
	{"aa", 2, list("aa"), api.ErrOrder},
	{"aba", 2, list("aba"), api.ErrOrder},
	{"acb", 3, list("acb"), api.ErrOrder},
	{"abb", 3, list("abb"), api.ErrOrder},
	{"aca", 3, list("aca"), api.ErrOrder},
	{"edcba", 5, list("edcba"), api.ErrOrder},
	{"a long text of one kind", 1, list(long("a")), api.ErrOrder},
	// the first letter with an error decides
	{"a wrong order, then no kind", 2, list("bac"), api.ErrOrder},
	{"no kind, then a wrong order", 2, list("acba"), api.ErrNone},
	{"no kind at first", 2, list("cba"), api.ErrNone},
	{"a wrong order, then no letter", 2, list("aaé"), api.ErrOrder},
	{"no letter, then a wrong order", 2, list("éaa"), api.ErrNone},
	{"no kind twice", 2, list("cc"), api.ErrNone},
	{"a twice", 2, list("a", "a"), api.ErrTwice},
	{"the empty bag twice", 2, list("", ""), api.ErrTwice},
	{"ab twice, not at once", 2, list("ab", "", "a", "ab"), api.ErrTwice},
	{"the last of 32 bags occurs before", 5, append(greatest().bags[:31], "ce"), api.ErrTwice},
	// the first bag with an error decides
	{"a bag twice, then no kind", 2, list("a", "a", "c"), api.ErrTwice},
	{"no kind, then a bag twice", 2, list("a", "c", "a"), api.ErrNone},
	{"a bag twice, then a wrong order", 2, list("", "", "ba"), api.ErrTwice},
	{"a wrong order, then a bag twice", 2, list("", "ba", ""), api.ErrOrder},
	{"a wrong order, then no kind", 2, list("ba", "c"), api.ErrOrder},
	{"no kind, then a wrong order", 2, list("c", "ba"), api.ErrNone},
	{"a wrong order twice", 2, list("ba", "ba"), api.ErrOrder},
	{"no kind in two bags", 2, list("c", "c"), api.ErrNone},
}

func TestCheck(t *testing.T) {
	for _, c := range checks {
		if e := rag.Check(c.kinds, c.bags); e != c.want {
			t.Errorf("%s: %d, want %d", c.name, e, c.want)
		}
	}
}

// result is what a function returns: texts, a number, a text, and an error.
type result struct {
	l    []string
	n    int
	text string
	e    api.Errno
}

func (r result) same(other result) bool {
	return slices.Equal(r.l, other.l) && r.n == other.n && r.text == other.text && r.e == other.e
}

// isZero tells whether there is nothing but an error.
func (r result) isZero() bool { return len(r.l) == 0 && r.n == 0 && r.text == "" }

func several(l []string, e api.Errno) result { return result{l: l, e: e} }
func number(n int, e api.Errno) result       { return result{n: n, e: e} }
func one(text string, e api.Errno) result    { return result{text: text, e: e} }
func nothing(e api.Errno) result             { return result{e: e} }

// ofSet returns what the functions with a set say.
func ofSet(x sample, set, part string) map[string]result {
	return map[string]result{
		"Traces":  several(rag.Traces(x.kinds, x.bags, set)),
		"Missing": one(rag.Missing(x.kinds, x.bags, set)),
		"Proves":  nothing(rag.Proves(x.kinds, x.bags, set, part)),
	}
}

// all returns what each function with bags says.
func all(x sample, set, part string, kind int) map[string]result {
	results := ofSet(x, set, part)
	results["Check"] = nothing(rag.Check(x.kinds, x.bags))
	results["Tidy"] = several(rag.Tidy(x.kinds, x.bags))
	results["Rest"] = several(rag.Rest(x.kinds, x.bags))
	results["Apart"] = several(rag.Apart(x.kinds, x.bags))
	results["Cubes"] = several(rag.Cubes(x.kinds, x.bags))
	results["Largest"] = number(rag.Largest(x.kinds, x.bags))
	results["Lower"] = several(rag.Lower(x.kinds, x.bags, kind))
	results["Lowest"] = several(rag.Lowest(x.kinds, x.bags))
	return results
}

// someTexts are sets of some kinds, and texts that are none of any.
var someTexts = list("", "a", "b", "ab", "c", "abc", "ac", "abcde", "e", "f", "ba", "aa", "bac", "é", "aé", "\xff", "\u0161", "A", long("a"), long("f"))

var someKinds = []int{0, 1, 2, 4, 5, -1, 'a', math.MaxInt, math.MinInt}

// All functions return Check's error before any of their own.
func TestCheckComesFirst(t *testing.T) {
	for _, c := range checks {
		if c.want == api.OK {
			continue
		}
		for i, set := range someTexts {
			for k := range 5 {
				part, kind := someTexts[(i+k)%len(someTexts)], someKinds[(i+k)%len(someKinds)]
				for name, r := range all(sample{c.kinds, c.bags}, set, part, kind) {
					if !r.isZero() || r.e != c.want {
						t.Errorf("%s of %s: %v, want %d", name, c.name, r, c.want)
					}
				}
			}
		}
	}
}

// wrongSets are no sets of two kinds.
var wrongSets = []struct {
	text string
	e    api.Errno
}{
	{"c", api.ErrNone}, {"ac", api.ErrNone}, {"f", api.ErrNone}, {"A", api.ErrNone}, {"`", api.ErrNone}, {"é", api.ErrNone},
	{"abé", api.ErrNone}, {"\xff", api.ErrNone}, {"a\x00", api.ErrNone}, {"\u0161", api.ErrNone}, {"\u6161", api.ErrNone},
	{"\U00010061", api.ErrNone}, {" ", api.ErrNone}, {long("c"), api.ErrNone},
	{"ba", api.ErrOrder}, {"aa", api.ErrOrder}, {"bb", api.ErrOrder}, {"aba", api.ErrOrder}, {long("b"), api.ErrOrder},
	// the first letter with an error decides
	{"bac", api.ErrOrder}, {"cba", api.ErrNone}, {"acba", api.ErrNone}, {"bbé", api.ErrOrder}, {"ébb", api.ErrNone},
}

// An error of a set comes before any error of the function, and before that of a part.
func TestSetsComeSecond(t *testing.T) {
	for _, x := range []sample{bagsA(), bagsB(), none(), bags(2, "- a b ab")} {
		for _, wrong := range wrongSets {
			for _, other := range someTexts {
				for name, r := range ofSet(x, wrong.text, other) {
					if !r.isZero() || r.e != wrong.e {
						t.Errorf("%s of %v: %q: %v, want %d", name, x, wrong.text, r, wrong.e)
					}
				}
			}
			for _, set := range list("", "a", "b", "ab") {
				if e := rag.Proves(x.kinds, x.bags, set, wrong.text); e != wrong.e {
					t.Errorf("Proves of %v and %q: %q: %d, want %d", x, set, wrong.text, e, wrong.e)
				}
			}
		}
	}
}

// P11.2 to P11.4, and P11.6

func TestSets(t *testing.T) {
	abc := bags(3, "- a ab abc ac b bc c").bags
	for _, x := range []struct {
		sample
		tidy, rest   []string
		apart, cubes []string
		largest      int
		lowest       []string
	}{
		{bagsA(), list("", "a", "ab"), list("b"), list("", "a", "b"), list("", "a", "b"), 1, list("", "a", "b")},
		{bagsB(), list("a", "b"), list("", "ab"), list("", "a", "b"), list(""), 1, list("", "b")},
		{bagsC(), list("ab", "abc", "ac", "bc"), list("", "a", "b", "c"), list("", "a", "b", "c"), list("", "a", "b", "c"), 1, list("", "a", "b", "c")},
		{none(), nil, list("", "a", "ab", "b"), nil, nil, -1, nil},
		{bags(1, ""), nil, list("", "a"), nil, nil, -1, nil},
		{bags(1, "-"), list(""), list("a"), list(""), list(""), 0, list("")},
		{bags(1, "a"), list("a"), list(""), list(""), list(""), 0, list("")},
		{bags(1, "a -"), list("", "a"), nil, list("", "a"), list("", "a"), 1, list("", "a")},
		{bags(2, "b a"), list("a", "b"), list("", "ab"), list("", "a", "b"), list(""), 1, list("", "b")},
		{bags(2, "ab"), list("ab"), list("", "a", "b"), list(""), list(""), 0, list("")},
		{bags(2, "b ab"), list("ab", "b"), list("", "a"), list("", "a"), list("", "a"), 1, list("", "a")},
		{bags(2, "ab -"), list("", "ab"), list("a", "b"), list("", "a", "b"), list(""), 1, list("", "b")},
		{bags(2, "ab b a -"), list("", "a", "ab", "b"), nil, list("", "a", "ab", "b"), list("", "a", "ab", "b"), 2, list("", "a", "ab", "b")},
		{bags(3, "c bc b ac abc ab a -"), abc, nil, abc, abc, 3, abc},
		// ab is told apart, but not with the same rest
		{bags(3, "c ac bc ab"), list("ab", "ac", "bc", "c"), list("", "a", "abc", "b"), list("", "a", "ab", "b", "c"), list("", "a", "b"), 2, list("", "a", "b", "c")},
		{bags(3, "- ac bc ab"), list("", "ab", "ac", "bc"), list("a", "abc", "b", "c"), list("", "a", "ab", "ac", "b", "bc", "c"), list(""), 2, list("", "b", "bc", "c")},
		// ab is told apart with the rest cd, and cd with the rest ab
		{bags(4, "cd acd bcd abcd ab abc abd"), list("ab", "abc", "abcd", "abd", "acd", "bcd", "cd"), list("", "a", "ac", "ad", "b", "bc", "bd", "c", "d"),
			list("", "a", "ab", "b", "c", "cd", "d"), list("", "a", "ab", "b", "c", "cd", "d"), 2, list("", "a", "ab", "b", "c", "cd", "d")},
	} {
		compare := func(name string, got result, want []string) {
			if !got.same(several(want, api.OK)) {
				t.Errorf("%s of %v: %v, want %v", name, x.sample, got, want)
			}
		}
		compare("Tidy", several(rag.Tidy(x.kinds, x.bags)), x.tidy)
		compare("Rest", several(rag.Rest(x.kinds, x.bags)), x.rest)
		compare("Apart", several(rag.Apart(x.kinds, x.bags)), x.apart)
		compare("Cubes", several(rag.Cubes(x.kinds, x.bags)), x.cubes)
		compare("Lowest", several(rag.Lowest(x.kinds, x.bags)), x.lowest)
		want := number(x.largest, api.OK)
		if len(x.bags) == 0 {
			want = number(0, api.ErrEmpty)
		}
		if r := number(rag.Largest(x.kinds, x.bags)); !r.same(want) {
			t.Errorf("Largest of %v: %v, want %v", x.sample, r, want)
		}
	}
}

// P11.3 and P11.5

func TestTraces(t *testing.T) {
	for _, x := range []struct {
		sample
		set     string
		traces  []string
		missing result
	}{
		{bagsA(), "", list(""), one("", api.ErrClash)},
		{bagsA(), "a", list("", "a"), one("", api.ErrClash)},
		{bagsA(), "b", list("", "b"), one("", api.ErrClash)},
		{bagsA(), "ab", list("", "a", "ab"), one("b", api.OK)},
		{bagsB(), "ab", list("a", "b"), one("", api.OK)},
		{bagsB(), "b", list("", "b"), one("", api.ErrClash)},
		{bagsC(), "ab", list("a", "ab", "b"), one("", api.OK)},
		{bagsC(), "ac", list("a", "ac", "c"), one("", api.OK)},
		{bagsC(), "abc", list("ab", "abc", "ac", "bc"), one("", api.OK)},
		{bagsC(), "c", list("", "c"), one("", api.ErrClash)},
		{none(), "", nil, one("", api.OK)},
		{none(), "ab", nil, one("", api.OK)},
		{bags(1, "a"), "a", list("a"), one("", api.OK)},
		{bags(1, "-"), "a", list(""), one("a", api.OK)},
		{bags(1, "a"), "", list(""), one("", api.ErrClash)},
		{bags(5, "abcde"), "bd", list("bd"), one("", api.OK)},
		{greatest(), "abcde", must(rag.Tidy(5, greatest().bags)), one("", api.ErrClash)},
		{greatest(), "ce", list("", "c", "ce", "e"), one("", api.ErrClash)},
		{crossed(), "ab", list("", "a", "ab", "b"), one("", api.ErrClash)},
		{crossed(), "cd", list("", "c", "cd", "d"), one("", api.ErrClash)},
		{crossed(), "abc", list("", "ab", "abc", "ac", "bc", "c"), one("a", api.OK)},
		{crossed(), "abd", list("", "a", "abd", "ad", "b", "bd", "d"), one("ab", api.OK)},
		// the first part is not the one of the fewest kinds
		{bags(3, "- a b bc ab ac"), "abc", list("", "a", "ab", "ac", "b", "bc"), one("abc", api.OK)},
		{bags(3, "- a b bc ab abc"), "abc", list("", "a", "ab", "abc", "b", "bc"), one("ac", api.OK)},
		{bags(3, "- a b bc ab abc ac"), "abc", list("", "a", "ab", "abc", "ac", "b", "bc"), one("c", api.OK)},
	} {
		if r := several(rag.Traces(x.kinds, x.bags, x.set)); !r.same(several(x.traces, api.OK)) {
			t.Errorf("Traces of %v: %q: %v, want %v", x.sample, x.set, r, x.traces)
		}
		if r := one(rag.Missing(x.kinds, x.bags, x.set)); !r.same(x.missing) {
			t.Errorf("Missing of %v: %q: %v, want %v", x.sample, x.set, r, x.missing)
		}
	}
}

func TestProves(t *testing.T) {
	for _, x := range []struct {
		sample
		set, part string
		want      api.Errno
	}{
		{bagsA(), "ab", "b", api.OK},
		{bagsA(), "ab", "a", api.ErrProof},
		{bagsA(), "ab", "", api.ErrProof},
		{bagsA(), "ab", "ab", api.ErrProof},
		{bagsA(), "a", "b", api.ErrProof},
		{bagsA(), "a", "ab", api.ErrProof},
		{bagsA(), "b", "b", api.ErrProof},
		{bagsA(), "", "", api.ErrProof},
		{bagsA(), "", "b", api.ErrProof},
		{bagsB(), "ab", "", api.OK},
		{bagsB(), "ab", "ab", api.OK},
		{bagsB(), "a", "ab", api.ErrProof},
		{bagsC(), "ab", "", api.OK},
		{bagsC(), "abc", "c", api.OK},
		{bagsC(), "abc", "bc", api.ErrProof},
		{bagsC(), "ab", "c", api.ErrProof},
		// it need not be the first part
		{bags(3, "a"), "abc", "abc", api.OK},
		{bags(3, "a"), "bc", "c", api.OK},
		{none(), "", "", api.OK},
		{none(), "ab", "b", api.OK},
		{none(), "a", "b", api.ErrProof},
		{greatest(), "abcde", "ace", api.ErrProof},
		// errors of texts
		{bagsA(), "c", "ba", api.ErrNone},
		{bagsA(), "ba", "c", api.ErrOrder},
		{bagsA(), "ab", "c", api.ErrNone},
		{bagsA(), "ab", "ba", api.ErrOrder},
		{bagsA(), "a", "bb", api.ErrOrder},
		{bagsA(), "a", "bc", api.ErrNone},
	} {
		if e := rag.Proves(x.kinds, x.bags, x.set, x.part); e != x.want {
			t.Errorf("Proves of %v and %q: %q: %d, want %d", x.sample, x.set, x.part, e, x.want)
		}
	}
}

// P11.6

func TestLower(t *testing.T) {
	for _, x := range []struct {
		sample
		kind int
		want result
	}{
		{bagsA(), 0, several(list("", "a", "b"), api.OK)},
		{bagsA(), 1, several(list("", "a", "ab"), api.OK)},
		{bagsA(), 2, nothing(api.ErrNone)},
		{bagsA(), -1, nothing(api.ErrNone)},
		{bagsA(), 'a', nothing(api.ErrNone)},
		{bagsA(), math.MaxInt, nothing(api.ErrNone)},
		{bagsA(), math.MinInt, nothing(api.ErrNone)},
		{bagsB(), 0, several(list("", "b"), api.OK)},
		{bagsB(), 1, several(list("", "a"), api.OK)},
		// abc stays as it is, because bc does
		{bagsC(), 0, several(list("abc", "b", "bc", "c"), api.OK)},
		{bagsC(), 1, several(list("a", "abc", "ac", "c"), api.OK)},
		{bagsC(), 2, several(list("a", "ab", "abc", "b"), api.OK)},
		{bagsC(), 3, nothing(api.ErrNone)},
		{none(), 0, nothing(api.OK)},
		{none(), 1, nothing(api.OK)},
		{none(), 2, nothing(api.ErrNone)},
		{bags(1, "a"), 0, several(list(""), api.OK)},
		{bags(1, "a -"), 0, several(list("", "a"), api.OK)},
		{bags(1, ""), 1, nothing(api.ErrNone)},
		{bags(5, "e abcde"), 4, several(list("", "abcd"), api.OK)},
		{bags(5, "e abcde"), 0, several(list("bcde", "e"), api.OK)},
		{bags(5, "e abcde"), 5, nothing(api.ErrNone)},
		// bags that do not have the kind stay as they are
		{bags(3, "bc c"), 0, several(list("bc", "c"), api.OK)},
		{bags(3, "abc ac a"), 1, several(list("a", "abc", "ac"), api.OK)},
		{bags(3, "abc ac a"), 2, several(list("a", "ab", "ac"), api.OK)},
	} {
		if r := several(rag.Lower(x.kinds, x.bags, x.kind)); !r.same(x.want) {
			t.Errorf("Lower of %v: %d: %v, want %v", x.sample, x.kind, r, x.want)
		}
	}
}

// P11.7

func TestBound(t *testing.T) {
	for i, row := range [][]int{{1, 2}, {1, 3, 4}, {1, 4, 7, 8}, {1, 5, 11, 15, 16}, {1, 6, 16, 26, 31, 32}} {
		for most, want := range row {
			if n, e := rag.Bound(i+1, most); n != want || e != api.OK {
				t.Errorf("Bound of %d: %d: %d %d, want %d", i+1, most, n, e, want)
			}
		}
		for _, most := range []int{-1, i + 2, 6, 100, math.MaxInt, math.MinInt} {
			if n, e := rag.Bound(i+1, most); n != 0 || e != api.ErrNone {
				t.Errorf("Bound of %d: %d: %d %d", i+1, most, n, e)
			}
		}
	}
	for _, kinds := range []int{0, -1, 6, 7, math.MaxInt, math.MinInt} {
		for _, most := range []int{0, 1, -1, 6, kinds, math.MaxInt, math.MinInt} {
			if n, e := rag.Bound(kinds, most); n != 0 || e != api.ErrRange {
				t.Errorf("Bound of %d: %d: %d %d", kinds, most, n, e)
			}
		}
	}
}

// P1: each function ends, does not panic, and returns the same for the same arguments.
func TestAllArguments(t *testing.T) {
	samples := valid()
	for _, c := range checks {
		samples = append(samples, sample{c.kinds, c.bags})
	}
	for _, x := range samples {
		for i, set := range someTexts {
			for k, kind := range someKinds {
				part := someTexts[(i+k)%len(someTexts)]
				a, b := all(x, set, part, kind), all(x, set, part, kind)
				for name := range a {
					if !a[name].same(b[name]) || a[name].e != api.OK && !a[name].isZero() {
						t.Errorf("%s of %v, %q, %q, %d: %v, then %v", name, x, set, part, kind, a[name], b[name])
					}
				}
			}
		}
	}
}

// loose returns a text whose letters can still be changed.
func loose(text string) (string, []byte) {
	letters := []byte(text)
	return unsafe.String(unsafe.SliceData(letters), len(letters)), letters
}

// R4: what a caller does with arguments and results changes no results, and arguments stay as they are.
func TestMemory(t *testing.T) {
	found := map[string]int{}
	for _, original := range []sample{bagsA(), bagsB(), bagsC()} {
		for round := range 2 {
			x, letters := sample{kinds: original.kinds}, [][]byte{nil, nil}
			var set, part string
			set, letters[0] = loose("ab")
			part, letters[1] = loose("b")
			for _, bag := range original.bags {
				text, some := loose(bag)
				x.bags, letters = append(x.bags, text), append(letters, some)
			}
			// another bag lies in the memory behind the last one
			x.bags = append(x.bags, "behind")[:len(x.bags)]
			results := all(x, set, part, 0)
			if !slices.Equal(x.bags, original.bags) || x.bags[:len(x.bags)+1][len(x.bags)] != "behind" || set != "ab" || part != "b" {
				t.Errorf("an argument was changed: %v, %q, %q", x, set, part)
			}
			for _, some := range letters {
				for i := range some {
					some[i] = 'z'
				}
			}
			for name, want := range all(original, "ab", "b", 0) {
				r := results[name]
				if !r.same(want) {
					t.Errorf("%s of %v, call %d: %v, want %v", name, original, round+1, r, want)
				}
				for i := range r.l[:cap(r.l)] {
					r.l[:cap(r.l)][i] = "other"
					found[name]++
				}
			}
		}
	}
	if len(found) != 7 {
		t.Errorf("not all lists came: %v", found)
	}
}
