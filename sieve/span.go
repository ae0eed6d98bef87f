package sieve

// span is the kinds from the first to the last one.
type span struct{ first, last int }

// spans has what is known of each span.
type spans[T any] [MaxKinds][MaxKinds]T

func (l *spans[T]) of(s span) T { return l[s.first][s.last] }

func (l *spans[T]) set(s span, known T) { l[s.first][s.last] = known }

func allOf(kinds int) span { return span{0, kinds - 1} }

// spansOf returns all spans of so many kinds, each one after its parts.
func spansOf(kinds int) []span {
	var l []span
	for more := range kinds {
		for first := range kinds - more {
			l = append(l, span{first, first + more})
		}
	}
	return l
}

func (s span) isOne() bool { return s.first == s.last }

// isDividedBy tells whether a sieve is one of those that divide the span.
func (s span) isDividedBy(sieve int) bool { return s.first <= sieve && sieve < s.last }

// sieves returns the sieves that divide the span, in ascending order.
func (s span) sieves() []int {
	var l []int
	for k := s.first; k < s.last; k++ {
		l = append(l, k)
	}
	return l
}

// parts returns what falls through a sieve and what stays in it.
func (s span) parts(sieve int) (through, stays span) {
	return span{s.first, sieve}, span{sieve + 1, s.last}
}

// partWith returns the part to which a sieve leads a kind.
func (s span) partWith(kind, sieve int) span {
	through, stays := s.parts(sieve)
	if kind <= sieve {
		return through
	}
	return stays
}

// read reads the list of a tree of the span, and returns what comes behind it.
func (s span) read(list []int) (rest []int, ok bool) {
	if s.isOne() {
		return list, true
	}
	if len(list) == 0 || !s.isDividedBy(list[0]) {
		return nil, false
	}
	through, stays := s.parts(list[0])
	if rest, ok = through.read(list[1:]); !ok {
		return nil, false
	}
	return stays.read(rest)
}
