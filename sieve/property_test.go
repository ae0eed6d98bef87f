package sieve_test

import (
	"math/rand/v2"
	"slices"
	"strconv"
	"strings"
	"testing"

	"breeze/api"
	"breeze/sieve"
)

// tree is a tree by its definition, with the sieves that lead to each of its kinds.
type tree struct {
	list  []int
	asked [][]int
}

// treesOf returns all trees of the kinds from the first to the last one.
func treesOf(first, last int) []tree {
	if first == last {
		return []tree{{nil, [][]int{nil}}}
	}
	var out []tree
	for k := first; k < last; k++ {
		for _, through := range treesOf(first, k) {
			for _, stays := range treesOf(k+1, last) {
				t := tree{list: slices.Concat(list(k), through.list, stays.list)}
				for _, l := range slices.Concat(through.asked, stays.asked) {
					t.asked = append(t.asked, slices.Concat(list(k), l))
				}
				out = append(out, t)
			}
		}
	}
	return out
}

// forest has all trees of each number of kinds, in ascending order.
func forest() map[int][]tree {
	out := map[int][]tree{}
	for kinds := 1; kinds <= sieve.MaxKinds; kinds++ {
		all := treesOf(0, kinds-1)
		slices.SortFunc(all, func(a, b tree) int { return slices.Compare(a.list, b.list) })
		out[kinds] = all
	}
	return out
}

func (x tree) depths() []int {
	var out []int
	for _, l := range x.asked {
		out = append(out, len(l))
	}
	return out
}

func (x tree) questions(loads []int) int { return times(loads, x.depths()) }

// times adds the products of numbers at the same places.
func times(a, b []int) int {
	sum := 0
	for i := range a {
		sum += a[i] * b[i]
	}
	return sum
}

// bestOf returns the best trees of loads, by the definition.
func bestOf(all []tree, loads []int) []tree {
	var out []tree
	for _, x := range all {
		n := x.questions(loads)
		if len(out) > 0 && n > out[0].questions(loads) {
			continue
		}
		if len(out) > 0 && n < out[0].questions(loads) {
			out = nil
		}
		out = append(out, x)
	}
	return out
}

// anyOf returns the least questions in any order: in a tree it is best to have greater loads at
// smaller depths.
func anyOf(all []tree, loads []int) int {
	ascending := slices.Sorted(slices.Values(loads))
	var out []int
	for _, x := range all {
		depths := slices.Sorted(slices.Values(x.depths()))
		slices.Reverse(depths)
		out = append(out, times(ascending, depths))
	}
	return slices.Min(out)
}

// everyList returns all lists of so many numbers from one to another.
func everyList(many, from, to int) [][]int {
	if many == 0 {
		return [][]int{nil}
	}
	var out [][]int
	for _, l := range everyList(many-1, from, to) {
		for n := from; n <= to; n++ {
			out = append(out, append(slices.Clip(l), n))
		}
	}
	return out
}

// samples returns all small loads of up to 5 kinds, and some of up to the limits.
func samples() [][]int {
	var out [][]int
	for i, most := range list(5, 5, 5, 4, 3) {
		out = append(out, everyList(i+1, 1, most)...)
	}
	r := rand.New(rand.NewPCG(5, 0))
	for range 800 {
		l := make([]int, 1+r.IntN(sieve.MaxKinds))
		most := list(2, 3, 9, sieve.MaxLoad)[r.IntN(4)]
		for i := range l {
			l[i] = 1 + r.IntN(most)
		}
		switch r.IntN(6) {
		case 0:
			slices.Sort(l)
		case 1:
			slices.Sort(l)
			slices.Reverse(l)
		}
		out = append(out, l)
	}
	return out
}

// P5.2 and P5.3, by the definitions.
func TestAllBest(t *testing.T) {
	all := forest()
	several, different := 0, 0
	for _, l := range samples() {
		best := bestOf(all[len(l)], l)
		if tree := must(sieve.Best(l)); !slices.Equal(tree, best[0].list) {
			t.Errorf("Best of %v: %v, want %v", l, tree, best[0].list)
		}
		if n := must(sieve.Least(l)); n != best[0].questions(l) {
			t.Errorf("Least of %v: %d, want %d", l, n, best[0].questions(l))
		}
		if n := must(sieve.Count(l)); n != len(best) {
			t.Errorf("Count of %v: %d, want %d", l, n, len(best))
		}
		if n := must(sieve.Any(l)); n != anyOf(all[len(l)], l) {
			t.Errorf("Any of %v: %d, want %d", l, n, anyOf(all[len(l)], l))
		}
		if len(l) == 1 {
			continue
		}
		var tops []int
		for _, x := range best {
			tops = append(tops, x.list[0])
		}
		if first, last, e := sieve.Tops(l); first != slices.Min(tops) || last != slices.Max(tops) || e != api.OK {
			t.Errorf("Tops of %v: %d %d %d, of %v", l, first, last, e, tops)
		}
		if len(best) > 1 {
			several++
		}
		if slices.Min(tops) < slices.Max(tops) {
			different++
		}
	}
	if several < 200 || different < 100 {
		t.Errorf("too few samples: %d, %d", several, different)
	}
}

// orders returns the orders of loads.
func orders(loads []int) [][]int {
	if len(loads) == 0 {
		return [][]int{nil}
	}
	var out [][]int
	for i, n := range loads {
		for _, l := range orders(slices.Concat(loads[:i], loads[i+1:])) {
			out = append(out, append(l, n))
		}
	}
	return out
}

// P5.3, by the definition: kinds are put in all orders.
func TestAllOrders(t *testing.T) {
	all := forest()
	for _, l := range samples() {
		if len(l) > 5 {
			continue
		}
		var least []int
		for _, o := range orders(l) {
			least = append(least, bestOf(all[len(l)], o)[0].questions(o))
		}
		if n := must(sieve.Any(l)); n != slices.Min(least) {
			t.Errorf("Any of %v: %d, want %d", l, n, slices.Min(least))
		}
	}
}

// P5.4, P5.5, P5.6, P5.7, P5.11 and P5.12: all trees.
func TestAllTrees(t *testing.T) {
	for kinds, all := range forest() {
		r := rand.New(rand.NewPCG(5, uint64(kinds)))
		if n := must(sieve.Trees(kinds)); n != len(all) {
			t.Errorf("Trees of %d: %d, want %d", kinds, n, len(all))
		}
		loads := make([]int, kinds)
		for i := range loads {
			loads[i] = 1 + r.IntN(sieve.MaxLoad)
		}
		for number, x := range all {
			if l := must(sieve.Tree(kinds, number)); !slices.Equal(l, x.list) {
				t.Errorf("Tree of %d: %d: %v, want %v", kinds, number, l, x.list)
			}
			if e := sieve.Valid(kinds, x.list); e != api.OK {
				t.Errorf("Valid of %d: %v: %d", kinds, x.list, e)
			}
			if l := must(sieve.Depths(kinds, x.list)); !slices.Equal(l, x.depths()) {
				t.Errorf("Depths of %v: %v, want %v", x.list, l, x.depths())
			}
			for kind, asked := range x.asked {
				if l := must(sieve.Asked(kinds, x.list, kind)); !slices.Equal(l, asked) {
					t.Errorf("Asked of %v: %d: %v, want %v", x.list, kind, l, asked)
				}
			}
			if n := must(sieve.Questions(loads, x.list)); n != x.questions(loads) {
				t.Errorf("Questions of %v with %v: %d, want %d", loads, x.list, n, x.questions(loads))
			}
			if l := must(sieve.Made(x.depths())); !slices.Equal(l, x.list) {
				t.Errorf("Made of %v: %v, want %v", x.depths(), l, x.list)
			}
		}
	}
}

// text is a list as a key of a map.
func text(l []int) string {
	var out []string
	for _, n := range l {
		out = append(out, strconv.Itoa(n))
	}
	return strings.Join(out, " ")
}

// near returns lists that differ from a list in one number or two, or have one more or one less.
func near(l []int, r *rand.Rand) [][]int {
	out := [][]int{append(slices.Clip(l), r.IntN(len(l)+1))}
	for i := range l {
		out = append(out, slices.Concat(l[:i], l[i+1:]))
		for _, more := range list(-2, -1, 1, 2) {
			other := slices.Clone(l)
			other[i] += more
			out = append(out, slices.Clone(other))
			other[r.IntN(len(l))] -= more
			out = append(out, other)
		}
	}
	return out
}

// P5.5: only the lists of trees are valid.
func TestAllLists(t *testing.T) {
	for kinds, all := range forest() {
		r := rand.New(rand.NewPCG(5, uint64(kinds)))
		trees := map[string]bool{}
		for _, x := range all {
			trees[text(x.list)] = true
		}
		check := func(l []int) {
			want := api.ErrShape
			if trees[text(l)] {
				want = api.OK
			}
			if e := sieve.Valid(kinds, l); e != want {
				t.Errorf("Valid of %d: %v: %d, want %d", kinds, l, e, want)
			}
		}
		for many := range min(kinds, 5) + 1 {
			for _, l := range everyList(many, -1, min(kinds, 5)) {
				check(l)
			}
		}
		for _, x := range all {
			for _, l := range near(x.list, r) {
				check(l)
			}
		}
	}
}

// P5.7: Made refuses all depths that have no tree.
func TestAllDepths(t *testing.T) {
	lost := 0
	for kinds, all := range forest() {
		r := rand.New(rand.NewPCG(5, uint64(kinds)))
		trees := map[string][]int{}
		for _, x := range all {
			trees[text(x.depths())] = x.list
		}
		check := func(l []int) {
			tree, ok := trees[text(l)]
			want := api.OK
			if slices.Min(l) < 0 || slices.Max(l) >= kinds {
				want = api.ErrRange
			} else if !ok {
				want = api.ErrLost
				lost++
			}
			if l, e := sieve.Made(l); !slices.Equal(l, tree) || e != want {
				t.Errorf("Made of %v: %v %d, want %v %d", l, l, e, tree, want)
			}
		}
		if kinds <= 6 {
			for _, l := range everyList(kinds, 0, kinds-1) {
				check(l)
			}
		}
		for _, x := range all {
			for _, l := range near(x.depths(), r) {
				if len(l) == kinds {
					check(l)
				}
			}
		}
	}
	if lost < 10000 {
		t.Errorf("only %d depths without a tree", lost)
	}
}

func sum(loads []int) int { return times(loads, equal(len(loads), 1)) }

func reversed(l []int) []int {
	out := slices.Clone(l)
	slices.Reverse(out)
	return out
}

// P5.8
func TestInOrder(t *testing.T) {
	all := forest()
	greater, same := 0, 0
	for _, l := range samples() {
		least, order := must(sieve.Least(l)), must(sieve.Any(l))
		for _, x := range all[len(l)] {
			if n := must(sieve.Questions(l, x.list)); n < least {
				t.Errorf("%v has %d questions of %v, Least is %d", x.list, n, l, least)
			}
		}
		if n := must(sieve.Questions(l, must(sieve.Best(l)))); n != least {
			t.Errorf("Best of %v has %d questions, Least is %d", l, n, least)
		}
		if least < order || least >= order+2*sum(l) {
			t.Errorf("%v: Least %d, Any %d", l, least, order)
		}
		if least > order {
			greater++
		}
		if slices.IsSorted(l) || slices.IsSorted(reversed(l)) {
			same++
			if least != order {
				t.Errorf("%v: Least %d, Any %d", l, least, order)
			}
		}
	}
	if greater < 100 || same < 300 {
		t.Errorf("too few samples: %d, %d", greater, same)
	}
}

// tops returns the smallest and the greatest top of best trees.
func tops(loads []int) []int {
	first, last, e := sieve.Tops(loads)
	return must(list(first, last), e)
}

// P5.9
func TestTops(t *testing.T) {
	if first, last, e := sieve.Tops(list(5)); first != 0 || last != 0 || e != api.ErrNone {
		t.Errorf("Tops of one kind: %d %d %d", first, last, e)
	}
	for _, l := range samples() {
		if len(l) < 3 {
			continue
		}
		less, all, more := tops(l[:len(l)-1]), tops(l), tops(l[1:])
		for i := range all {
			if less[i] > all[i] || all[i] > more[i]+1 {
				t.Errorf("Tops of %v: %v; without the last kind %v; without the first one %v, and 1", l, all, less, more)
			}
		}
	}
}

// measure is that of depths up to 7, of which 128 are one whole.
func measure(depths []int) int {
	m := 0
	for _, d := range depths {
		m += 128 >> d
	}
	return m
}

// ascending returns all lists of so many numbers, up to the greatest one, of which none is smaller
// than the one before it.
func ascending(many, greatest int) [][]int {
	if many == 0 {
		return [][]int{nil}
	}
	var out [][]int
	for last := range greatest + 1 {
		for _, l := range ascending(many-1, last) {
			out = append(out, append(l, last))
		}
	}
	return out
}

// P5.10
func TestMeasure(t *testing.T) {
	for _, all := range forest() {
		for _, x := range all {
			if l := must(sieve.Depths(len(x.asked), x.list)); measure(l) != 128 {
				t.Errorf("the depths %v of %v have the measure %d/128", l, x.list, measure(l))
			}
		}
	}
	many := 0
	for kinds := 1; kinds <= sieve.MaxKinds; kinds++ {
		for _, l := range ascending(kinds, kinds-1) {
			for _, depths := range [][]int{l, reversed(l)} {
				want := api.ErrLost
				if measure(depths) == 128 {
					want = api.OK
					many++
				}
				if tree, e := sieve.Made(depths); e != want {
					t.Errorf("Made of %v, with the measure %d/128: %v %d", depths, measure(depths), tree, e)
				}
			}
		}
	}
	// 1, 1, 1, 2, 3, 5, 9 and 16 lists of 1 to 8 depths
	if many != 2*38 {
		t.Errorf("%d lists have the measure 1", many)
	}
}

// P5.11
func TestThereAndBack(t *testing.T) {
	for kinds := 1; kinds <= sieve.MaxKinds; kinds++ {
		numbers := map[string]int{}
		for number := range must(sieve.Trees(kinds)) {
			tree := must(sieve.Tree(kinds, number))
			if back := must(sieve.Made(must(sieve.Depths(kinds, tree)))); !slices.Equal(back, tree) {
				t.Errorf("%v: Made of its Depths is %v", tree, back)
			}
			if other, ok := numbers[text(tree)]; ok {
				t.Errorf("Tree of %d: %d and %d are %v", kinds, other, number, tree)
			}
			numbers[text(tree)] = number
		}
		for _, x := range treesOf(0, kinds-1) {
			if _, ok := numbers[text(x.list)]; !ok {
				t.Errorf("%v has no number", x.list)
			}
		}
	}
}

// P5.13
func TestTurned(t *testing.T) {
	for _, l := range samples() {
		other := reversed(l)
		a := list(must(sieve.Least(l)), must(sieve.Any(l)), must(sieve.Count(l)))
		b := list(must(sieve.Least(other)), must(sieve.Any(other)), must(sieve.Count(other)))
		if !slices.Equal(a, b) {
			t.Errorf("Least, Any and Count of %v: %v; of %v: %v", l, a, other, b)
		}
		for factor := 2; factor*slices.Max(l) <= sieve.MaxLoad && factor < 5; factor++ {
			more := slices.Clone(l)
			for i := range more {
				more[i] *= factor
			}
			if a, b := must(sieve.Best(l)), must(sieve.Best(more)); !slices.Equal(a, b) {
				t.Errorf("Best of %v: %v; of %v: %v", l, a, more, b)
			}
			if a, b := must(sieve.Count(l)), must(sieve.Count(more)); a != b {
				t.Errorf("Count of %v: %d; of %v: %d", l, a, more, b)
			}
		}
	}
}

// depthsOf returns the depths of a kind in the best trees of loads.
func depthsOf(all []tree, loads []int, kind int) []int {
	var out []int
	for _, x := range bestOf(all, loads) {
		out = append(out, len(x.asked[kind]))
	}
	return out
}

// P5.14
func TestMoreLoads(t *testing.T) {
	all := forest()
	for i, l := range samples() {
		for kind := range l {
			if l[kind] == sieve.MaxLoad || len(l) > 6 && i%4 > 0 {
				continue
			}
			more := slices.Clone(l)
			more[kind]++
			grows := must(sieve.Least(more)) - must(sieve.Least(l))
			if most := slices.Min(depthsOf(all[len(l)], l, kind)); grows > most {
				t.Errorf("Least grows by %d from %v to %v, want %d at the most", grows, l, more, most)
			}
			if least := slices.Max(depthsOf(all[len(l)], more, kind)); grows < least {
				t.Errorf("Least grows by %d from %v to %v, want %d at the least", grows, l, more, least)
			}
		}
	}
	for kinds := 1; kinds <= sieve.MaxKinds; kinds++ {
		for load := 1; load <= sieve.MaxLoad; load++ {
			l := must(sieve.Depths(kinds, must(sieve.Best(equal(kinds, load)))))
			if slices.Max(l) > slices.Min(l)+1 {
				t.Errorf("Best of %d loads of %d has the depths %v", kinds, load, l)
			}
		}
	}
}
