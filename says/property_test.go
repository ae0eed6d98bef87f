package says_test

import (
	"cmp"
	"math/rand/v2"
	"slices"
	"strconv"
	"testing"

	"breeze/api"
	"breeze/says"
)

// setsFrom returns all sets of the facts from a first one on, in ascending order.
func setsFrom(first, facts int) [][]int {
	out := lists(nil)
	for fact := first; fact < facts; fact++ {
		for _, l := range setsFrom(fact+1, facts) {
			out = append(out, slices.Concat(list(fact), l))
		}
	}
	return out
}

func isPart(a, b []int) bool {
	return !slices.ContainsFunc(a, func(fact int) bool { return !slices.Contains(b, fact) })
}

// union returns the facts of both sets.
func union(a, b []int) []int {
	return slices.Compact(slices.Sorted(slices.Values(slices.Concat(a, b))))
}

// common returns the facts that both sets have.
func common(a, b []int) []int {
	return slices.DeleteFunc(slices.Clone(a), func(fact int) bool { return !slices.Contains(b, fact) })
}

// rest returns the facts of a that are not in b.
func rest(a, b []int) []int {
	return slices.DeleteFunc(slices.Clone(a), func(fact int) bool { return slices.Contains(b, fact) })
}

// text is a set as a key of a map.
func text(set []int) string {
	out := ""
	for _, fact := range set {
		out += strconv.Itoa(fact)
	}
	return out
}

// sample is a book with what the definitions say of it.
type sample struct {
	says.Book
	all    [][]int
	closed [][]int
	from   map[string][]int // what follows from each set
	open   [][]int
}

func sampleOf(b says.Book) sample {
	s := sample{Book: b, all: setsFrom(0, b.Facts), from: map[string][]int{}}
	for _, set := range s.all {
		if s.isClosed(set) {
			s.closed = append(s.closed, set)
		}
	}
	for _, set := range s.all {
		with := slices.DeleteFunc(slices.Clone(s.closed), func(l []int) bool { return !isPart(set, l) })
		s.from[text(set)] = slices.MinFunc(with, shorter)
	}
	// parts of a set are shorter
	for _, set := range slices.SortedStableFunc(slices.Values(s.all), shorter) {
		if s.isOpen(set) {
			s.open = append(s.open, set)
		}
	}
	slices.SortFunc(s.open, slices.Compare)
	return s
}

func shorter(a, b []int) int { return cmp.Compare(len(a), len(b)) }

func (s sample) isClosed(set []int) bool {
	return !slices.ContainsFunc(s.Sentences, func(x says.Sentence) bool { return isPart(x.If, set) && !isPart(x.Then, set) })
}

// isOpen tells whether a set is open, if all shorter open sets are known.
func (s sample) isOpen(set []int) bool {
	for _, part := range s.open {
		if isPart(part, set) && len(part) < len(set) && !isPart(s.follows(part), set) {
			return false
		}
	}
	return !s.isClosed(set)
}

func (s sample) follows(set []int) []int { return s.from[text(set)] }

// without returns the sentences but one.
func without(l []says.Sentence, i int) []says.Sentence { return slices.Concat(l[:i], l[i+1:]) }

// families returns, for each way in which sets of so many facts can be closed, a book with the
// fewest sentences. The sets that a sentence leaves closed are bits, and those of more sentences are
// what all of them leave.
func families(facts int) []says.Book {
	all := setsFrom(0, facts)
	masks := map[uint][]says.Sentence{}
	var each []says.Sentence
	var leaves []uint
	for _, given := range all {
		for _, then := range all {
			x := sentence(given, then)
			var mask uint
			for i, set := range all {
				if sampleOfOne(x).isClosed(set) {
					mask |= 1 << i
				}
			}
			each = append(each, x)
			leaves = append(leaves, mask)
		}
	}
	everything := uint(1)<<len(all) - 1
	masks[everything] = nil
	var out []says.Book
	for left := []uint{everything}; len(left) > 0; left = left[1:] {
		at := left[0]
		out = append(out, book(facts, masks[at]...))
		for i, x := range each {
			next := at & leaves[i]
			if _, ok := masks[next]; !ok {
				masks[next] = append(slices.Clip(masks[at]), x)
				left = append(left, next)
			}
		}
	}
	return out
}

func sampleOfOne(x says.Sentence) sample { return sample{Book: book(says.MaxFacts, x)} }

// some returns a set of up to so many facts.
func some(facts, most int, r *rand.Rand) []int {
	return slices.Sorted(slices.Values(r.Perm(facts)[:r.IntN(min(facts, most)+1)]))
}

// mixed returns books of up to the limits, of which some have the same sentence again, and some have
// facts that follow one another.
func mixed(many int) []says.Book {
	r := rand.New(rand.NewPCG(6, 0))
	var out []says.Book
	for len(out) < many {
		b := book(1 + r.IntN(says.MaxFacts))
		if r.IntN(3) > 0 {
			b.Facts = says.MaxFacts - r.IntN(2)
		}
		for range r.IntN(says.MaxSentences + 1) {
			x := sentence(some(b.Facts, 3, r), some(b.Facts, 2, r))
			switch r.IntN(8) {
			case 0, 1:
				fact := r.IntN(b.Facts)
				x = sentence(list(fact), list((fact+1)%b.Facts))
			case 2:
				if len(b.Sentences) > 0 {
					x = b.Sentences[r.IntN(len(b.Sentences))]
				}
			case 3:
				x = sentence(some(b.Facts, b.Facts, r), some(b.Facts, b.Facts, r))
			}
			b.Sentences = append(b.Sentences, x)
		}
		out = append(out, b)
	}
	return out
}

// chains returns books in which many facts follow one another, by sentences in any order, and some
// more sentences.
func chains(many int) []says.Book {
	r := rand.New(rand.NewPCG(6, 1))
	var out []says.Book
	for range many {
		b := book(says.MaxFacts)
		names := r.Perm(b.Facts)
		for i := 1; i < b.Facts; i++ {
			given := slices.Sorted(slices.Values(names[max(0, i-1-r.IntN(3)):i]))
			b.Sentences = append(b.Sentences, sentence(given, list(names[i])))
		}
		for range r.IntN(says.MaxSentences - len(b.Sentences) + 1) {
			b.Sentences = append(b.Sentences, sentence(some(b.Facts, 3, r), some(b.Facts, 1, r)))
		}
		r.Shuffle(len(b.Sentences), func(i, k int) { b.Sentences[i], b.Sentences[k] = b.Sentences[k], b.Sentences[i] })
		out = append(out, b)
	}
	return out
}

// samples returns a book for each way in which sets of up to 4 facts can be closed, all books of 2
// facts and up to 2 sentences, and some of up to the limits.
func samples() []sample {
	var out []sample
	add := func(l ...says.Book) {
		for _, b := range l {
			out = append(out, sampleOf(b))
		}
	}
	for facts := 1; facts <= 4; facts++ {
		add(families(facts)...)
	}
	small := setsFrom(0, 2)
	for i := range 256 {
		x, y := sentence(small[i&3], small[i>>2&3]), sentence(small[i>>4&3], small[i>>6])
		add(book(2, x, y))
	}
	add(bookB(), bookC(), bookD(), chain(), many(8))
	add(mixed(1000)...)
	add(chains(200)...)
	return out
}

// seldom returns some of many samples.
func seldom(l []sample) []sample {
	var out []sample
	for i := 0; i < len(l); i += 5 {
		out = append(out, l[i])
	}
	return out
}

// P6.2, by the definitions.
func TestAllSets(t *testing.T) {
	for _, s := range samples() {
		if l := must(says.All(s.Book)); !sameLists(l, s.closed) {
			t.Errorf("All of %v: %v, want %v", s.Book, l, s.closed)
		}
		for _, set := range s.all {
			if l := must(says.Follows(s.Book, set)); !slices.Equal(l, s.follows(set)) {
				t.Errorf("Follows of %v: %v: %v, want %v", s.Book, set, l, s.follows(set))
			}
			if closed := must(says.Closed(s.Book, set)); closed != s.isClosed(set) {
				t.Errorf("Closed of %v: %v: %v", s.Book, set, closed)
			}
		}
	}
}

// firstSteps returns the first list of so many steps with which a fact is there.
func (s sample) firstSteps(there []int, fact, many int) (steps []int, ok bool) {
	if many == 0 {
		return nil, slices.Contains(there, fact)
	}
	for i, x := range s.Sentences {
		if !isPart(x.If, there) {
			continue
		}
		if l, ok := s.firstSteps(union(there, x.Then), fact, many-1); ok {
			return slices.Concat(list(i), l), true
		}
	}
	return nil, false
}

// P6.3 and P6.9: the shortest steps, by the definition.
func TestAllSteps(t *testing.T) {
	lengths := map[int]int{}
	for _, s := range samples() {
		for _, set := range s.all {
			for fact := range s.Facts {
				steps, e := says.Steps(s.Book, set, fact)
				if !slices.Contains(s.follows(set), fact) {
					if len(steps) > 0 || e != api.ErrLost {
						t.Errorf("Steps of %v: %v to %d: %v %d", s.Book, set, fact, steps, e)
					}
					continue
				}
				var want []int
				for many := range s.Facts + 1 {
					l, ok := s.firstSteps(set, fact, many)
					if ok {
						want = l
						break
					}
				}
				lengths[len(want)]++
				if !slices.Equal(steps, want) || e != api.OK {
					t.Errorf("Steps of %v: %v to %d: %v %d, want %v", s.Book, set, fact, steps, e, want)
				}
			}
		}
	}
	if lengths[3] < 1000 || lengths[4] < 100 || lengths[5] < 10 {
		t.Errorf("too few long steps: %v", lengths)
	}
}

// P6.9
func TestStepsAreProofs(t *testing.T) {
	for _, s := range samples() {
		for _, set := range s.all {
			for fact := range s.Facts {
				steps, e := says.Steps(s.Book, set, fact)
				if slices.Contains(s.follows(set), fact) != (e == api.OK) {
					t.Errorf("Steps of %v: %v to %d: %v %d", s.Book, set, fact, steps, e)
				}
				if e != api.OK {
					continue
				}
				if l := must(says.Goes(s.Book, set, steps)); !slices.Contains(l, fact) {
					t.Errorf("Goes of %v: %v by %v: %v", s.Book, set, steps, l)
				}
				once := slices.Compact(slices.Sorted(slices.Values(steps)))
				if len(once) < len(steps) || len(steps) > s.Facts {
					t.Errorf("Steps of %v: %v to %d: %v", s.Book, set, fact, steps)
				}
			}
		}
	}
}

// goes carries out steps by the definition.
func (s sample) goes(set, steps []int) ([]int, api.Errno) {
	for k, i := range steps {
		if i < 0 || i >= len(s.Sentences) {
			return nil, api.ErrNone
		}
		there := set
		for _, before := range steps[:k] {
			there = union(there, s.Sentences[before].Then)
		}
		if !isPart(s.Sentences[i].If, there) {
			return nil, api.ErrLost
		}
	}
	for _, i := range steps {
		set = union(set, s.Sentences[i].Then)
	}
	return set, api.OK
}

// P6.3: Goes with many steps, right and wrong ones.
func TestAllGoes(t *testing.T) {
	r := rand.New(rand.NewPCG(6, 3))
	errors := map[api.Errno]int{}
	for _, s := range samples() {
		for _, set := range s.all {
			steps := make([]int, r.IntN(5))
			for k := range steps {
				steps[k] = r.IntN(max(1, len(s.Sentences)))
				if r.IntN(10) == 0 {
					steps[k] = list(-1, len(s.Sentences))[r.IntN(2)]
				}
			}
			want, wantE := s.goes(set, steps)
			errors[wantE]++
			if l, e := says.Goes(s.Book, set, steps); !slices.Equal(l, want) || e != wantE {
				t.Errorf("Goes of %v: %v by %v: %v %d, want %v %d", s.Book, set, steps, l, e, want, wantE)
			}
		}
	}
	for _, e := range []api.Errno{api.OK, api.ErrNone, api.ErrLost} {
		if errors[e] < 1000 {
			t.Errorf("too few samples: %v", errors)
		}
	}
}

// P6.4, by the definition.
func TestAllOpen(t *testing.T) {
	found := map[int]int{}
	for _, s := range samples() {
		var want [][]int
		for _, set := range s.open {
			want = append(want, set, rest(s.follows(set), set))
		}
		if l := must(says.Base(s.Book)); !sameLists(parts(l), want) {
			t.Errorf("Base of %v: %v, want %v", s.Book, l, want)
		}
		for _, set := range s.all {
			if open := must(says.Open(s.Book, set)); open != slices.ContainsFunc(s.open, func(l []int) bool { return slices.Equal(l, set) }) {
				t.Errorf("Open of %v: %v: %v, want %v", s.Book, set, open, s.open)
			}
		}
		found[len(s.open)]++
	}
	for many := range 7 {
		if found[many] < 4 {
			t.Errorf("too few samples: %v", found)
		}
	}
}

// P6.5 and P6.6, by the definitions.
func TestAllNeedless(t *testing.T) {
	found := 0
	for _, s := range samples() {
		var want []int
		for i := range s.Sentences {
			if o := sampleOf(book(s.Facts, without(s.Sentences, i)...)); sameLists(o.closed, s.closed) {
				want = append(want, i)
				found++
			}
		}
		if l := must(says.Needless(s.Book)); !slices.Equal(l, want) {
			t.Errorf("Needless of %v: %v, want %v", s.Book, l, want)
		}
	}
	if found < 1000 {
		t.Errorf("only %d needless sentences", found)
	}
}

// P6.5 and P6.13
func TestAllFewest(t *testing.T) {
	others := 0
	for _, s := range samples() {
		for _, set := range s.all {
			same := slices.DeleteFunc(slices.Clone(s.all), func(l []int) bool { return !slices.Equal(s.follows(l), s.follows(set)) })
			want := slices.MinFunc(same, func(a, b []int) int { return cmp.Or(shorter(a, b), slices.Compare(a, b)) })
			l := must(says.Fewest(s.Book, set))
			if !slices.Equal(l, want) {
				t.Errorf("Fewest of %v: %v: %v, want %v", s.Book, set, l, want)
			}
			if !isPart(l, set) {
				others++
			}
			for _, part := range s.all {
				if isPart(part, l) && slices.Equal(must(says.Follows(s.Book, part)), must(says.Follows(s.Book, set))) != slices.Equal(part, l) {
					t.Errorf("Fewest of %v: %v: %v, and its part %v", s.Book, set, l, part)
				}
			}
		}
	}
	if others < 100 {
		t.Errorf("only %d other sets", others)
	}
}

// P6.6
func TestAllSame(t *testing.T) {
	found := map[bool]int{}
	check := func(a, b sample) {
		want, wantE := sameLists(a.closed, b.closed), api.OK
		if a.Facts != b.Facts {
			want, wantE = false, api.ErrShape
		}
		found[want]++
		if same, e := says.Same(a.Book, b.Book); same != want || e != wantE {
			t.Errorf("Same of %v and %v: %v %d, want %v %d", a.Book, b.Book, same, e, want, wantE)
		}
	}
	var small []sample
	for _, s := range samples() {
		if s.Facts < 3 {
			small = append(small, s)
		}
		for i := range s.Sentences {
			check(s, sampleOf(book(s.Facts, without(s.Sentences, i)...)))
		}
	}
	for _, a := range seldom(small) {
		for _, b := range small {
			check(a, b)
			check(b, a)
		}
	}
	if found[true] < 1000 || found[false] < 1000 {
		t.Errorf("too few samples: %v", found)
	}
}

// P6.7: what the base says, and how few sentences it has.
func TestBaseIsBest(t *testing.T) {
	for _, s := range samples() {
		base := must(says.Base(s.Book))
		if same, e := says.Same(s.Book, book(s.Facts, base...)); !same || e != api.OK {
			t.Errorf("Same of %v and its base %v: %v %d", s.Book, base, same, e)
		}
		if l := must(says.Needless(book(s.Facts, base...))); len(l) > 0 {
			t.Errorf("the base %v of %v has needless sentences: %v", base, s.Book, l)
		}
		if len(base) > len(s.Sentences) {
			t.Errorf("the base %v of %v is longer", base, s.Book)
		}
		often := make([]int, len(s.Sentences))
		for _, x := range base {
			has := false
			for i, y := range s.Sentences {
				if isPart(y.If, x.If) && !isPart(y.Then, x.If) {
					has = true
					often[i]++
				}
			}
			if !has {
				t.Errorf("%v has no sentence for the open set %v", s.Book, x.If)
			}
		}
		if len(often) > 0 && slices.Max(often) > 1 {
			t.Errorf("%v has a sentence for two open sets: %v", s.Book, often)
		}
	}
}

// P6.7: the base has as few sentences as any book that says the same, for all ways in which sets of
// up to 4 facts can be closed.
func TestFamilies(t *testing.T) {
	for facts, want := range list(0, 2, 7, 61, 2480) {
		if facts == 0 {
			continue
		}
		l := families(facts)
		if len(l) != want {
			t.Errorf("%d families of %d facts, want %d", len(l), facts, want)
		}
		for _, b := range l {
			if base := must(says.Base(b)); len(base) != len(b.Sentences) {
				t.Errorf("the base of %v is %v", b, base)
			}
		}
	}
}

// P6.8
func TestCommon(t *testing.T) {
	for _, s := range seldom(samples()) {
		all := must(says.All(s.Book))
		everything := s.all[0]
		for fact := range s.Facts {
			everything = append(everything, fact)
		}
		if closed := must(says.Closed(s.Book, everything)); !closed {
			t.Errorf("Closed of %v: %v: %v", s.Book, everything, closed)
		}
		for _, a := range all {
			for _, b := range all {
				if closed := must(says.Closed(s.Book, common(a, b))); !closed {
					t.Errorf("Closed of %v: %v: %v, but %v and %v are", s.Book, common(a, b), closed, a, b)
				}
			}
		}
		for _, set := range s.all {
			want := everything
			for _, l := range all {
				if isPart(set, l) {
					want = common(want, l)
				}
			}
			if l := must(says.Follows(s.Book, set)); !slices.Equal(l, want) {
				t.Errorf("Follows of %v: %v: %v, want %v", s.Book, set, l, want)
			}
		}
	}
}

// P6.10
func TestMoreFacts(t *testing.T) {
	for _, s := range samples() {
		for _, set := range s.all {
			l := must(says.Follows(s.Book, set))
			if again := must(says.Follows(s.Book, l)); !slices.Equal(again, l) {
				t.Errorf("Follows of %v: %v: %v, and then %v", s.Book, set, l, again)
			}
			if !isPart(set, l) {
				t.Errorf("Follows of %v: %v: %v", s.Book, set, l)
			}
			for fact := range s.Facts {
				if more := must(says.Follows(s.Book, union(set, list(fact)))); !isPart(l, more) {
					t.Errorf("Follows of %v: %v: %v; with %d: %v", s.Book, set, l, fact, more)
				}
			}
		}
	}
}

// P6.11
func TestMoreSentences(t *testing.T) {
	for _, s := range samples() {
		needless := must(says.Needless(s.Book))
		for i := range s.Sentences {
			less := book(s.Facts, without(s.Sentences, i)...)
			for _, set := range s.all {
				a, b := must(says.Follows(less, set)), must(says.Follows(s.Book, set))
				if !isPart(a, b) {
					t.Errorf("Follows of %v: %v: %v; without sentence %d: %v", s.Book, set, b, i, a)
				}
				if slices.Contains(needless, i) && !slices.Equal(a, b) {
					t.Errorf("Follows of %v: %v: %v; without the needless sentence %d: %v", s.Book, set, b, i, a)
				}
			}
		}
	}
}

// renamed gives facts other numbers.
func renamed(set, names []int) []int {
	var out []int
	for _, fact := range set {
		out = append(out, names[fact])
	}
	slices.Sort(out)
	return out
}

// P6.12
func TestNames(t *testing.T) {
	r := rand.New(rand.NewPCG(6, 12))
	for _, s := range samples() {
		names := r.Perm(s.Facts)
		other, mixed := book(s.Facts), book(s.Facts)
		for _, x := range s.Sentences {
			other.Sentences = append(other.Sentences, sentence(renamed(x.If, names), renamed(x.Then, names)))
		}
		for _, i := range r.Perm(len(s.Sentences)) {
			mixed.Sentences = append(mixed.Sentences, s.Sentences[i])
		}
		for _, set := range s.all {
			l := must(says.Follows(s.Book, set))
			if o := must(says.Follows(other, renamed(set, names))); !slices.Equal(o, renamed(l, names)) {
				t.Errorf("Follows of %v: %v: %v; with the names %v: %v", s.Book, set, l, names, o)
			}
			if o := must(says.Follows(mixed, set)); !slices.Equal(o, l) {
				t.Errorf("Follows of %v: %v: %v; of %v: %v", s.Book, set, l, mixed, o)
			}
		}
		base, all := must(says.Base(s.Book)), must(says.All(s.Book))
		if a, b := must(says.Base(other)), must(says.All(other)); len(a) != len(base) || len(b) != len(all) {
			t.Errorf("%v: %v, %v; with the names %v: %v, %v", s.Book, base, all, names, a, b)
		}
		if a, b := must(says.Base(mixed)), must(says.All(mixed)); !sameLists(parts(a), parts(base)) || !sameLists(b, all) {
			t.Errorf("%v: %v, %v; of %v: %v, %v", s.Book, base, all, mixed, a, b)
		}
	}
}
