package crew

import (
	"iter"
	"slices"

	"breeze/index"
)

// search brings back the first list that comes, or nil if none does.
func search(lists iter.Seq[[]int]) any {
	for l := range lists {
		return l
	}
	return nil
}

// lists yields all lists of kinds, the shorter ones first.
func (c Crew) lists() iter.Seq[[]int] {
	return func(yield func([]int) bool) {
		all := index.Below(len(c.Kinds)).List()
		for many := range len(all) + 1 {
			for _, kinds := range index.Picks(all, many) {
				if !yield(kinds) {
					return
				}
			}
		}
	}
}

// kindsThat yields the lists of kinds whose pairs join the sifters in such a way that they say yes to
// a question, the shorter ones first.
func (c Crew) kindsThat(question func(joined) bool) iter.Seq[[]int] {
	return func(yield func([]int) bool) {
		for kinds := range c.lists() {
			if c.only(kinds).ask(question) && !yield(kinds) {
				return
			}
		}
	}
}

// choices yields all choices in ascending order.
func (c Crew) choices() iter.Seq[[]int] {
	return func(yield func([]int) bool) {
		c.eachChoice(nil, yield)
	}
}

// eachChoice yields the choices that begin as head does, and tells whether more are wanted.
func (c Crew) eachChoice(head []int, yield func([]int) bool) bool {
	if c.chosen(head).ask(joined.makeRing) {
		return true
	}
	if len(head) == len(c.Kinds) {
		return yield(slices.Clone(head))
	}
	for i := range c.Kinds[len(head)] {
		if !c.eachChoice(append(head, i), yield) {
			return false
		}
	}
	return true
}

// goTogether tells whether kinds go together.
func (c Crew) goTogether(kinds []int) bool {
	_, ok := search(c.only(kinds).choices()).([]int)
	return ok
}
