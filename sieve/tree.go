package sieve

import "slices"

// trees are the trees in which each span has one of its tops at the top.
type trees struct {
	tops spans[[]int]
	many spans[int]
}

// add says which tops a span has, after this has been said of its parts.
func (t *trees) add(s span, tops []int) {
	many := 0
	switch {
	case s.isOne():
		// a kind alone is a tree without a top, so that nothing is added to this
		many = 1
		fallthrough
	default:
		for _, top := range tops {
			through, stays := s.parts(top)
			many += t.many.of(through) * t.many.of(stays)
		}
		t.tops.set(s, tops)
		t.many.set(s, many)
	}
}

// list returns the list of the tree of a span that has a number: lists with a smaller top come
// first, and of these the ones in which the list of what falls through is smaller.
func (t *trees) list(s span, number int) []int {
	for _, top := range t.tops.of(s) {
		through, stays := s.parts(top)
		each := t.many.of(stays)
		many := t.many.of(through) * each
		if number < many {
			return slices.Concat([]int{top}, t.list(through, number/each), t.list(stays, number%each))
		}
		number -= many
	}
	return nil
}

// every returns all trees of so many kinds.
func every(kinds int) *trees {
	t := &trees{}
	for _, s := range spansOf(kinds) {
		t.add(s, s.sieves())
	}
	return t
}

// best returns the questions of the best trees, and these trees: those in which each span has one of
// its best tops, because a tree can only be best if its parts are.
func best(loads []int) (int, *trees) {
	var least spans[int]
	t := &trees{}
	for _, s := range spansOf(len(loads)) {
		questions, tops := bestTops(loads, s, &least)
		least.set(s, questions)
		t.add(s, tops)
	}
	return least.of(allOf(len(loads))), t
}

// bestTops returns the least questions of a span of which the parts are known, and the tops that
// have them. A kind alone has none.
func bestTops(loads []int, s span, least *spans[int]) (questions int, tops []int) {
	for _, top := range s.sieves() {
		through, stays := s.parts(top)
		n := sum(loads[s.first:s.last+1]) + least.of(through) + least.of(stays)
		switch {
		case len(tops) == 0 || n < questions:
			questions, tops = n, nil
			fallthrough
		case n == questions:
			tops = append(tops, top)
		}
	}
	return questions, tops
}

// inAnyOrder returns the least questions in any order: some best tree has a sieve that only tells
// apart the two kinds with the smallest loads, so both can be counted as one kind from then on.
func inAnyOrder(loads []int) int {
	questions := 0
	for left := slices.Clone(loads); len(left) > 1; left = left[1:] {
		slices.Sort(left)
		left[1] += left[0]
		questions += left[1]
	}
	return questions
}

func sum(loads []int) int {
	all := 0
	for _, l := range loads {
		all += l
	}
	return all
}

// asked returns the sieves that lead to a kind. The next one is the first in the list that divides
// the kinds that are left, because the list has a sieve before all those behind it.
func asked(kinds int, tree []int, kind int) []int {
	var sieves []int
	left := allOf(kinds)
	for _, sieve := range tree {
		if left.isDividedBy(sieve) {
			sieves = append(sieves, sieve)
			left = left.partWith(kind, sieve)
		}
	}
	return sieves
}

func depths(kinds int, tree []int) []int {
	l := make([]int, kinds)
	for kind := range l {
		l[kind] = len(asked(kinds, tree, kind))
	}
	return l
}

// part is a tree of the kinds up to the last one, with the depth at which it is in a greater tree.
type part struct {
	last  int
	depth int
	tree  []int
}

// made returns the tree of depths, if there is one. What falls through a sieve and what stays in it
// are equally deep, so two parts that are, one right behind the other, must belong to one sieve.
func made(depths []int) (tree []int, ok bool) {
	var parts []part
	for kind, depth := range depths {
		next := part{kind, depth, nil}
		for len(parts) > 0 && parts[len(parts)-1].depth == next.depth {
			next = parts[len(parts)-1].joined(next)
			parts = parts[:len(parts)-1]
		}
		parts = append(parts, next)
	}
	if len(parts) > 1 || parts[0].depth != 0 {
		return nil, false
	}
	return parts[0].tree, true
}

// joined puts a sieve before a part, which falls through it, and another one, which stays in it.
func (p part) joined(stays part) part {
	return part{stays.last, p.depth - 1, slices.Concat([]int{p.last}, p.tree, stays.tree)}
}
