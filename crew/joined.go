package crew

import "breeze/index"

// joined is sifters that all pairs of a crew have joined, one pair after the other.
type joined struct {
	groups [MaxSifters]index.Set // for each sifter all those to whom it is joined, and itself
	rank   int                   // so many pairs joined two sifters who were not joined before
	pairs  int
	kinds  int
}

// makeRing tells whether the pairs make a ring: one of them joined two sifters who were joined.
func (j joined) makeRing() bool { return j.rank < j.pairs }

// block tells whether the kinds block the crew.
func (j joined) block() bool { return j.rank < j.kinds }

// by joins two sifters, and all those to whom they are joined.
func (j *joined) by(pair [2]int) {
	j.pairs++
	group := j.groups[pair[0]]
	if group.Has(pair[1]) {
		return
	}
	j.rank++
	group |= j.groups[pair[1]]
	for sifter := range j.groups {
		if group.Has(sifter) {
			j.groups[sifter] = group
		}
	}
}

// join returns the sifters, joined by all pairs of the crew.
func (c Crew) join() joined {
	j := joined{kinds: len(c.Kinds)}
	for sifter := range j.groups {
		j.groups[sifter] = index.One(sifter)
	}
	for _, pairs := range c.Kinds {
		for _, pair := range pairs {
			j.by(pair)
		}
	}
	return j
}

// ask returns what the sifters, joined by all pairs of the crew, say to a question.
func (c Crew) ask(question func(joined) bool) bool { return question(c.join()) }
