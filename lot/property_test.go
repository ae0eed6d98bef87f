package lot_test

import (
	"cmp"
	"math/rand/v2"
	"slices"
	"testing"

	"breeze/api"
	"breeze/lot"
)

// sample is a stone, and loads.
type sample struct {
	stone int
	loads []int
}

// lefts returns all lists of so many remainders.
func lefts(stone, many int) [][]int {
	if many == 0 {
		return lists(nil)
	}
	var out [][]int
	for _, l := range lefts(stone, many-1) {
		for n := range stone {
			out = append(out, append(slices.Clip(l), n))
		}
	}
	return out
}

// kinds returns all lists of so many remainders in ascending order, up to their order.
func kinds(stone, many int) [][]int {
	if many == 0 {
		return lists(nil)
	}
	var out [][]int
	for _, l := range kinds(stone, many-1) {
		for n := slices.Max(append(list(0), l...)); n < stone; n++ {
			out = append(out, append(slices.Clip(l), n))
		}
	}
	return out
}

// mixed has the same remainders in another order, of loads of all weights.
func mixed(stone int, l []int, r *rand.Rand) []int {
	out := slices.Clone(l)
	r.Shuffle(len(out), func(i, k int) { out[i], out[k] = out[k], out[i] })
	for i := range out {
		out[i] += stone * r.IntN((lot.MaxWeight-out[i])/stone+1)
	}
	return out
}

// samples returns all lists of a few remainders for each stone, equal loads, as many loads as there
// can be of which some weigh nothing, and loads of up to the limits.
func samples() []sample {
	var out []sample
	for stone := 1; stone <= lot.MaxStone; stone++ {
		for many := range list(7, 7, 8, 6, 5, 5)[stone-1] {
			for _, l := range lefts(stone, many) {
				out = append(out, sample{stone, l})
			}
		}
		for many := range lot.MaxLoads + 1 {
			for n := range stone {
				out = append(out, sample{stone, equal(many, n)})
			}
			out = append(out, sample{stone, slices.Concat(equal(many, 0), equal(lot.MaxLoads-many, 1))})
		}
	}
	r := rand.New(rand.NewPCG(7, 0))
	for range 1000 {
		stone := 1 + r.IntN(lot.MaxStone)
		l := equal(r.IntN(lot.MaxLoads+1), r.IntN(stone))
		// with few others there are few lots, and they need more loads
		for range r.IntN(1 + len(l)) {
			l[r.IntN(len(l))] = r.IntN(stone)
		}
		out = append(out, sample{stone, mixed(stone, l, r)})
	}
	return out
}

func sum(l []int) int {
	all := 0
	for _, n := range l {
		all += n
	}
	return all
}

// left returns what these loads leave.
func (x sample) left(these []int) int {
	weight := 0
	for _, i := range these {
		weight += x.loads[i]
	}
	return weight % x.stone
}

// indices has all lists of at least one index of so many loads, in ascending order.
var indices = func() (out [lot.MaxLoads + 1][][]int) {
	for many := range out {
		out[many] = from(0, many)[1:]
	}
	return out
}()

// from returns all lists of indices from a first one on, in ascending order.
func from(first, many int) [][]int {
	out := lists(nil)
	for i := first; i < many; i++ {
		for _, l := range from(i+1, many) {
			out = append(out, slices.Concat(list(i), l))
		}
	}
	return out
}

// some returns all lists of some loads, in ascending order.
func (x sample) some() [][]int { return indices[len(x.loads)] }

// whole returns all lists of loads that weigh whole stones together, in ascending order.
func (x sample) whole() [][]int {
	var out [][]int
	for _, l := range x.some() {
		if x.left(l) == 0 {
			out = append(out, l)
		}
	}
	return out
}

func (x sample) lots() [][]int {
	return slices.DeleteFunc(x.whole(), func(l []int) bool { return len(l) != x.stone })
}

func share(a, b []int) bool {
	return slices.ContainsFunc(a, func(i int) bool { return slices.Contains(b, i) })
}

// apart returns the first of the longest lists of lots of which no two have a load in common.
func apart(lots [][]int) [][]int {
	var longest [][]int
	for i, l := range lots {
		others := slices.DeleteFunc(slices.Clone(lots[i+1:]), func(other []int) bool { return share(l, other) })
		if out := append(lists(l), apart(others)...); len(out) > len(longest) {
			longest = out
		}
	}
	return longest
}

// different returns the numbers of a list in ascending order, each once.
func different(l []int) []int { return slices.Compact(slices.Sorted(slices.Values(l))) }

// each returns what loads leave.
func (x sample) each() []int {
	var out []int
	for i := range x.loads {
		out = append(out, x.left(list(i)))
	}
	return different(out)
}

func divisor(a, b int) int {
	for b != 0 {
		a, b = b, a%b
	}
	return a
}

func isPrime(stone int) bool { return stone == 2 || stone == 3 || stone == 5 }

// P7.2 and P7.3, by the definitions.
func TestAllLots(t *testing.T) {
	found := map[int]int{}
	for _, x := range samples() {
		lots := x.lots()
		first, want := list(), api.ErrLost
		if len(lots) > 0 {
			first, want = lots[0], api.OK
		}
		if l, e := lot.Lot(x.stone, x.loads); !slices.Equal(l, first) || e != want {
			t.Errorf("Lot of %v: %v %d, want %v %d", x, l, e, first, want)
		}
		if n := must(lot.Lots(x.stone, x.loads)); n != len(lots) {
			t.Errorf("Lots of %v: %d, want %d", x, n, len(lots))
		}
		for _, l := range x.some() {
			want := api.OK
			if len(l) != x.stone {
				want = api.ErrShape
			} else if x.left(l) != 0 {
				want = api.ErrProof
			}
			if e := lot.Proves(x.stone, x.loads, l); e != want {
				t.Errorf("Proves of %v: %v: %d, want %d", x, l, e, want)
			}
		}
		found[min(len(lots), 9)]++
	}
	for many := range 10 {
		if found[many] < 40 {
			t.Errorf("too few samples: %v", found)
		}
	}
}

// P7.2: Most, by the definition.
func TestAllMost(t *testing.T) {
	found, others := map[int]int{}, 0
	for _, x := range samples() {
		lots := x.lots()
		want := apart(lots)
		if l := must(lot.Most(x.stone, x.loads)); !sameLists(l, want) {
			t.Errorf("Most of %v: %v, want %v", x, l, want)
		}
		found[len(want)]++
		if len(want) > 0 && !slices.Equal(want[0], lots[0]) {
			others++
		}
	}
	if found[0] < 100 || found[2] < 100 || found[3] < 50 || found[4] < 50 || found[5] < 10 || others < 100 {
		t.Errorf("too few samples: %v, and %d without the first lot", found, others)
	}
}

// P7.10
func TestMostAreMany(t *testing.T) {
	for _, x := range samples() {
		most := must(lot.Most(x.stone, x.loads))
		var came []int
		for _, l := range most {
			if e := lot.Proves(x.stone, x.loads, l); e != api.OK || share(came, l) {
				t.Errorf("Most of %v: %v: %v: %d", x, most, l, e)
			}
			came = append(came, l...)
		}
		if least := (len(x.loads) - x.stone + 1) / x.stone; len(most) < least {
			t.Errorf("Most of %v: %v, which are less than %d", x, most, least)
		}
	}
}

// P7.7
func TestLotsOfMany(t *testing.T) {
	r := rand.New(rand.NewPCG(7, 1))
	for stone := 1; stone <= lot.MaxStone; stone++ {
		for _, l := range kinds(stone, 2*stone-1) {
			l = mixed(stone, l, r)
			these, e := lot.Lot(stone, l)
			if e != api.OK || lot.Proves(stone, l, these) != api.OK {
				t.Errorf("Lot of %d, %v: %v %d", stone, l, these, e)
			}
			if n := must(lot.Lots(stone, l)); n < 1 || isPrime(stone) && n%stone != 1 {
				t.Errorf("Lots of %d, %v: %d", stone, l, n)
			}
		}
	}
}

// P7.4 and P7.8, by the definitions.
func TestAllTwo(t *testing.T) {
	r := rand.New(rand.NewPCG(7, 2))
	for stone := 2; stone <= lot.MaxStone; stone++ {
		found := map[api.Errno]int{}
		for _, l := range kinds(stone, 2*stone-2) {
			x := sample{stone, mixed(stone, l, r)}
			a, b, e := lot.Two(stone, x.loads)
			found[e]++
			if len(x.lots()) > 0 {
				if a != 0 || b != 0 || e != api.ErrClash {
					t.Errorf("Two of %v: %d %d %d, want %d", x, a, b, e, api.ErrClash)
				}
				continue
			}
			if left := x.each(); !slices.Equal(left, list(a, b)) || e != api.OK {
				t.Errorf("Two of %v: %d %d %d, want %v", x, a, b, e, left)
			}
			half := slices.Concat(equal(stone-1, a), equal(stone-1, b))
			if !slices.Equal(l, half) || divisor(stone, b-a) != 1 {
				t.Errorf("Two of %v: %d %d", x, a, b)
			}
		}
		// any two numbers with such a difference leave no lot
		want := 0
		for b := range stone {
			for a := range b {
				if divisor(stone, b-a) == 1 {
					want++
				}
			}
		}
		if found[api.OK] != want || len(found) != 2 {
			t.Errorf("Two of %d: %v, want %d", stone, found, want)
		}
	}
}

// P7.4: Two of another number of loads.
func TestTwoOfOthers(t *testing.T) {
	for _, x := range samples() {
		if x.stone > 1 && len(x.loads) == 2*x.stone-2 {
			continue
		}
		if a, b, e := lot.Two(x.stone, x.loads); a != 0 || b != 0 || e != api.ErrShape {
			t.Errorf("Two of %v: %d %d %d", x, a, b, e)
		}
	}
}

// firstWithout returns the first list that begins like this one, and of which there is no lot.
func firstWithout(stone int, begin []int) (l []int, ok bool) {
	if len(begin) == 2*stone-2 {
		return begin, true
	}
	for weight := range stone {
		x := sample{stone, append(slices.Clip(begin), weight)}
		if len(x.lots()) > 0 {
			continue
		}
		if l, ok := firstWithout(stone, x.loads); ok {
			return l, true
		}
	}
	return nil, false
}

// P7.4: Without, by the definition.
func TestAllWithout(t *testing.T) {
	for stone := 1; stone <= lot.MaxStone; stone++ {
		l := must(lot.Without(stone))
		if want, ok := firstWithout(stone, nil); !slices.Equal(l, want) || !ok {
			t.Errorf("Without of %d: %v, want %v", stone, l, want)
		}
		if n := must(lot.Lots(stone, l)); n != 0 || len(l) != 2*stone-2 {
			t.Errorf("Lots of %d, %v: %d", stone, l, n)
		}
		if a, b, e := lot.Two(stone, l); stone > 1 && (a != 0 || b != 1 || e != api.OK) {
			t.Errorf("Two of %d, %v: %d %d %d", stone, l, a, b, e)
		}
	}
}

// P7.5, by the definitions.
func TestAllSome(t *testing.T) {
	lengths := map[int]int{}
	for _, x := range samples() {
		want, wantE := list(), api.ErrLost
		if whole := x.whole(); len(whole) > 0 {
			want, wantE = slices.MinFunc(whole, func(a, b []int) int { return cmp.Compare(len(a), len(b)) }), api.OK
		}
		if l, e := lot.Some(x.stone, x.loads); !slices.Equal(l, want) || e != wantE {
			t.Errorf("Some of %v: %v %d, want %v %d", x, l, e, want, wantE)
		}
		lengths[len(want)]++
	}
	for many := range lot.MaxStone + 1 {
		if lengths[many] < 10 {
			t.Errorf("too few samples: %v", lengths)
		}
	}
}

// P7.5, by the definition.
func TestAllRows(t *testing.T) {
	lengths := map[int]int{}
	for _, x := range samples() {
		want, wantE := list(0, 0), api.ErrLost
		for begin := range x.loads {
			for end := range len(x.loads) + 1 {
				if begin < end && wantE != api.OK && sum(x.loads[begin:end])%x.stone == 0 {
					want, wantE = list(begin, end), api.OK
				}
			}
		}
		if begin, end, e := lot.Row(x.stone, x.loads); !slices.Equal(list(begin, end), want) || e != wantE {
			t.Errorf("Row of %v: %d %d %d, want %v %d", x, begin, end, e, want, wantE)
		}
		lengths[want[1]-want[0]]++
	}
	for many := range lot.MaxStone + 1 {
		if lengths[many] < 10 {
			t.Errorf("too few samples: %v", lengths)
		}
	}
}

// P7.9
func TestSomeAndRows(t *testing.T) {
	for stone := 1; stone <= lot.MaxStone; stone++ {
		for _, l := range lefts(stone, stone) {
			some, e := lot.Some(stone, l)
			begin, end, f := lot.Row(stone, l)
			x := sample{stone, l}
			if e != api.OK || len(some) < 1 || x.left(some) != 0 {
				t.Errorf("Some of %v: %v %d", x, some, e)
			}
			if f != api.OK || begin >= end || sum(l[begin:end])%stone != 0 {
				t.Errorf("Row of %v: %d %d %d", x, begin, end, f)
			}
		}
		fewer := equal(stone-1, 1)
		if some, e := lot.Some(stone, fewer); len(some) > 0 || e != api.ErrLost {
			t.Errorf("Some of %d, %v: %v %d", stone, fewer, some, e)
		}
		if begin, end, e := lot.Row(stone, fewer); begin != 0 || end != 0 || e != api.ErrLost {
			t.Errorf("Row of %d, %v: %d %d %d", stone, fewer, begin, end, e)
		}
	}
}

// P7.6, by the definition.
func TestAllLeaves(t *testing.T) {
	lengths := map[int]int{}
	for _, x := range samples() {
		left := make([][]int, len(x.loads)+1)
		for _, l := range x.some() {
			left[len(l)] = append(left[len(l)], x.left(l))
		}
		for many := range left[1:] {
			want := different(left[many+1])
			if l := must(lot.Leaves(x.stone, x.loads, many+1)); !slices.Equal(l, want) {
				t.Errorf("Leaves of %v, %d: %v, want %v", x, many+1, l, want)
			}
			lengths[len(want)]++
		}
	}
	for many := 1; many <= lot.MaxStone; many++ {
		if lengths[many] < 100 {
			t.Errorf("too few samples: %v", lengths)
		}
	}
}

// P7.13
func TestLeavesOfOthers(t *testing.T) {
	for _, x := range samples() {
		all := len(x.loads)
		for many := 1; many < all; many++ {
			var want []int
			for _, n := range must(lot.Leaves(x.stone, x.loads, many)) {
				want = append(want, (sum(x.loads)%x.stone-n+x.stone)%x.stone)
			}
			if l := must(lot.Leaves(x.stone, x.loads, all-many)); !slices.Equal(l, different(want)) {
				t.Errorf("Leaves of %v, %d: %v, want %v", x, all-many, l, different(want))
			}
		}
	}
}

// checkSums checks what two lists of loads leave: P7.6 by the definition, and P7.11.
func checkSums(t *testing.T, stone int, a, b []int) {
	var want []int
	for _, m := range a {
		for _, n := range b {
			want = append(want, (m+n)%stone)
		}
	}
	l := must(lot.Sums(stone, a, b))
	if !slices.Equal(l, different(want)) {
		t.Errorf("Sums of %d, %v, %v: %v, want %v", stone, a, b, l, different(want))
	}
	least := len(sample{stone, a}.each()) + len(sample{stone, b}.each()) - 1
	if isPrime(stone) && len(a) > 0 && len(b) > 0 && len(l) < min(stone, least) {
		t.Errorf("Sums of %d, %v, %v: %v, which are less than %d", stone, a, b, l, least)
	}
}

func TestAllSums(t *testing.T) {
	r := rand.New(rand.NewPCG(7, 3))
	for stone := 1; stone <= lot.MaxStone; stone++ {
		sets := from(0, stone)
		for _, a := range sets {
			for _, b := range sets {
				checkSums(t, stone, a, b)
				checkSums(t, stone, mixed(stone, slices.Concat(a, a), r), mixed(stone, slices.Concat(b, b), r))
			}
		}
	}
}

// P7.12
func TestNames(t *testing.T) {
	r := rand.New(rand.NewPCG(7, 4))
	for _, x := range samples() {
		if len(x.loads) == 0 {
			continue
		}
		lots := must(lot.Lots(x.stone, x.loads))
		lighter := slices.Clone(x.loads)
		for i := range lighter {
			lighter[i] %= x.stone
		}
		heavier := slices.Clone(lighter)
		more := r.IntN(lot.MaxWeight - x.stone)
		for i := range heavier {
			heavier[i] += more
		}
		for _, l := range lists(lighter, heavier) {
			if n := must(lot.Lots(x.stone, l)); n != lots {
				t.Errorf("Lots of %v: %d, but %d of %v", x, lots, n, l)
			}
			if most := must(lot.Most(x.stone, l)); !sameLists(most, must(lot.Most(x.stone, x.loads))) {
				t.Errorf("Most of %v: not %v, as of %v", x, most, l)
			}
			for _, these := range x.lots() {
				if e := lot.Proves(x.stone, l, these); e != api.OK {
					t.Errorf("Proves of %v: %v: %d", l, these, e)
				}
			}
		}
		other := slices.Clone(x.loads)
		r.Shuffle(len(other), func(i, k int) { other[i], other[k] = other[k], other[i] })
		if n := must(lot.Lots(x.stone, other)); n != lots {
			t.Errorf("Lots of %v: %d, but %d of %v", x, lots, n, other)
		}
		if a, b := must(lot.Most(x.stone, x.loads)), must(lot.Most(x.stone, other)); len(a) != len(b) {
			t.Errorf("Most of %v: %v, but %v of %v", x, a, b, other)
		}
		a, e := lot.Some(x.stone, x.loads)
		b, f := lot.Some(x.stone, other)
		if len(a) != len(b) || e != f {
			t.Errorf("Some of %v: %v %d, but %v %d of %v", x, a, e, b, f, other)
		}
	}
}
