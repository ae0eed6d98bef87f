package rag

import (
	"slices"

	"breeze/api"
	"breeze/index"
)

// areKinds tells whether there can be so many kinds.
func areKinds(kinds int) bool { return kinds >= 1 && kinds <= MaxKinds }

// read changes bags to sets of the numbers of their kinds, or returns their error.
func read(kinds int, bags []string) (sets, api.Errno) {
	if !areKinds(kinds) {
		return nil, api.ErrRange
	}
	if len(bags) > MaxBags {
		return nil, api.ErrMany
	}
	var out sets
	for _, bag := range bags {
		set, e := readSet(kinds, bag)
		if e != api.OK {
			return nil, e
		}
		if out.has(set) {
			return nil, api.ErrTwice
		}
		out = append(out, set)
	}
	return out, api.OK
}

// readWith reads bags, and then a set.
func readWith(kinds int, bags []string, text string) (sets, index.Set, api.Errno) {
	out, e := read(kinds, bags)
	if e != api.OK {
		return nil, 0, e
	}
	set, e := readSet(kinds, text)
	if e != api.OK {
		return nil, 0, e
	}
	return out, set, api.OK
}

// readSet changes a text to the set of the numbers of its kinds, or returns the error of its first
// wrong letter.
func readSet(kinds int, text string) (index.Set, api.Errno) {
	var set index.Set
	for _, letter := range text {
		kind := int(letter - 'a')
		if !index.Is(kind, kinds) {
			return 0, api.ErrNone
		}
		// a set of smaller numbers is less than that of this one alone
		if set >= index.One(kind) {
			return 0, api.ErrOrder
		}
		set |= index.One(kind)
	}
	return set, api.OK
}

// write changes sets to texts, in ascending order.
func write(s sets) []string {
	var out []string
	for _, set := range s {
		var letters []rune
		for _, kind := range set.List() {
			letters = append(letters, 'a'+rune(kind))
		}
		out = append(out, string(letters))
	}
	slices.Sort(out)
	return out
}
