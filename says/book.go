package says

import (
	"cmp"
	"slices"

	"breeze/api"
	"breeze/index"
)

// both has both sets of a sentence.
type both struct{ granted, then index.Set }

// sentence is a sentence with what is known about it: the index at which it is in its book, which
// tells it from an equal one.
type sentence struct {
	both
	at int
}

// book has all facts, and the sentences about them.
type book struct {
	facts     index.Set
	sentences []sentence
}

// read returns what is in a book, or its error.
func read(b Book) (book, api.Errno) {
	if b.Facts < 1 || b.Facts > MaxFacts {
		return book{}, api.ErrRange
	}
	if len(b.Sentences) > MaxSentences {
		return book{}, api.ErrMany
	}
	out := book{facts: index.Below(b.Facts)}
	for at, s := range b.Sentences {
		granted, e := index.SetOf(s.If, b.Facts)
		if e != api.OK {
			return book{}, e
		}
		then, e := index.SetOf(s.Then, b.Facts)
		if e != api.OK {
			return book{}, e
		}
		out.sentences = append(out.sentences, sentence{both{granted, then}, at})
	}
	return out, api.OK
}

// readWith returns what is in a book and in a set, or the first error of both.
func readWith(b Book, set []int) (book, index.Set, api.Errno) {
	out, e := read(b)
	if e != api.OK {
		return book{}, 0, e
	}
	s, e := index.SetOf(set, b.Facts)
	if e != api.OK {
		return book{}, 0, e
	}
	return out, s, api.OK
}

func (b book) follows(from index.Set) index.Set {
	for {
		more := from
		for _, s := range b.sentences {
			if s.granted.IsWithin(more) {
				more |= s.then
			}
		}
		if more == from {
			return from
		}
		from = more
	}
}

func (b book) isClosed(set index.Set) bool { return b.follows(set) == set }

// each returns the sets of which something is true, in ascending order.
func (b book) each(is func(index.Set) bool) []index.Set {
	var l []index.Set
	for s := range b.facts + 1 {
		if is(s) {
			l = append(l, s)
		}
	}
	slices.SortFunc(l, index.Set.Compare)
	return l
}

// open returns the open sets, in ascending order.
func (b book) open() []index.Set {
	var open []index.Set
	// a part of a set is a smaller number, so that it is known by then whether it is open
	for s := range b.facts + 1 {
		lacks := func(part index.Set) bool { return part.IsWithin(s) && !b.follows(part).IsWithin(s) }
		if !b.isClosed(s) && !slices.ContainsFunc(open, lacks) {
			open = append(open, s)
		}
	}
	slices.SortFunc(open, index.Set.Compare)
	return open
}

// fewest returns the first of the shortest sets from which the same follows.
func (b book) fewest(from index.Set) index.Set {
	same := b.each(func(s index.Set) bool { return b.follows(s) == b.follows(from) })
	return slices.MinFunc(same, func(x, y index.Set) int { return cmp.Compare(x.Many(), y.Many()) })
}

// saysSame tells whether the same sets are closed in a book with as many facts.
func (b book) saysSame(other book) bool {
	for s := range b.facts + 1 {
		if b.isClosed(s) != other.isClosed(s) {
			return false
		}
	}
	return true
}

// without returns the book with all sentences but this one.
func (b book) without(s sentence) book {
	isIt := func(other sentence) bool { return other == s }
	return book{b.facts, slices.DeleteFunc(slices.Clone(b.sentences), isIt)}
}

// reached has the facts to which steps lead.
type reached struct {
	facts index.Set
	steps []int
}

// steps returns the first of the shortest steps to a fact, if there are any. Steps to facts that
// have been reached before are left out, because whatever can follow them can also follow those
// before, which are shorter or come first.
func (b book) steps(from index.Set, fact int) (steps []int, ok bool) {
	found := map[index.Set]bool{from: true}
	for left := []reached{{from, nil}}; len(left) > 0; left = left[1:] {
		r := left[0]
		if r.facts.Has(fact) {
			return r.steps, true
		}
		for _, s := range b.sentences {
			next := r.facts | s.then
			if s.granted.IsWithin(r.facts) && !found[next] {
				found[next] = true
				left = append(left, reached{next, append(slices.Clip(r.steps), s.at)})
			}
		}
	}
	return nil, false
}
