package tip_test

import (
	"maps"
	"math/rand/v2"
	"slices"
	"testing"

	"breeze/api"
	"breeze/tip"
)

// sample is a market, and how far each of its corners is from each one.
type sample struct {
	tip.Market
	far [][]int
}

func (x sample) many() int { return len(x.Loads) }

const never = 1000

// measured finds how far corners are from one another, by shorter and shorter ways over other ones.
func measured(m tip.Market) sample {
	far := make([][]int, len(m.Loads))
	for i := range far {
		far[i] = equal(len(m.Loads), never)
		far[i][i] = 0
	}
	for _, l := range m.Lanes {
		far[l[0]][l[1]], far[l[1]][l[0]] = min(l[2], far[l[0]][l[1]]), min(l[2], far[l[0]][l[1]])
	}
	for over := range far {
		for i := range far {
			for k := range far {
				far[i][k] = min(far[i][k], far[i][over]+far[over][k])
			}
		}
	}
	return sample{m, far}
}

// isWhole tells whether one comes from each corner to each other one.
func (x sample) isWhole() bool {
	return !slices.ContainsFunc(x.far, func(l []int) bool { return slices.Contains(l, never) })
}

// below returns all lists of so many numbers, each less than limit, in ascending order.
func below(limit, many int) [][]int {
	if many == 0 {
		return lists(nil)
	}
	var out [][]int
	for _, l := range below(limit, many-1) {
		for n := range limit {
			out = append(out, append(slices.Clip(l), n))
		}
	}
	return out
}

// pairs returns all two of so many corners, each as a lane of length 1.
func pairs(many int) [][3]int {
	var out [][3]int
	for i := range many {
		for k := i + 1; k < many; k++ {
			out = append(out, lane(i, k, 1))
		}
	}
	return out
}

// trees returns, for so many corners, all lists of lanes of length 1 by which one comes from each
// corner to each other one, up to the order of lanes.
func trees(many int) [][][3]int {
	var out [][][3]int
	all := pairs(many)
	for bits := range 1 << len(all) {
		var lanes [][3]int
		for i, l := range all {
			if bits>>i&1 == 1 {
				lanes = append(lanes, l)
			}
		}
		if len(lanes) == many-1 && measured(market(make([]int, many), lanes...)).isWhole() {
			out = append(out, lanes)
		}
	}
	return out
}

// some returns so many numbers, from low to high.
func some(r *rand.Rand, low, high, many int) []int {
	l := equal(many, low)
	for i := range l {
		l[i] += r.IntN(high - low + 1)
	}
	return l
}

// filled has these loads, and lanes of these lengths.
func filled(lanes [][3]int, loads, lengths []int) sample {
	m := market(loads, slices.Clone(lanes)...)
	for i := range m.Lanes {
		m.Lanes[i][2] = lengths[i]
	}
	return measured(m)
}

// randomLanes returns lanes of a row, of a star or of something between, whose corners have numbers
// in any order, and which are in any order.
func randomLanes(r *rand.Rand, many int) [][3]int {
	names, bend := r.Perm(many), r.IntN(many)
	var lanes [][3]int
	for i := 1; i < many; i++ {
		before := max(0, i-1-r.IntN(bend+1))
		lanes = append(lanes, lane(min(names[i], names[before]), max(names[i], names[before]), 1))
	}
	r.Shuffle(len(lanes), func(i, k int) { lanes[i], lanes[k] = lanes[k], lanes[i] })
	return lanes
}

// samples returns all markets of up to three corners with loads below 3 and lengths up to 2, all of
// four with loads and lengths of two kinds, all trees of five and some of more corners.
func samples() []sample {
	var out []sample
	for many := 1; many <= 4; many++ {
		for _, lanes := range trees(many) {
			for _, loads := range below(3-many/4, many) {
				for _, lengths := range below(2, many-1) {
					for i := range lengths {
						lengths[i]++
					}
					out = append(out, filled(lanes, loads, lengths))
				}
			}
		}
	}
	r := rand.New(rand.NewPCG(9, 0))
	for _, lanes := range trees(5) {
		for range 8 {
			out = append(out, filled(lanes, some(r, 0, 2, 5), some(r, 1, 3, 4)))
		}
	}
	for i := range 800 {
		many := 6 + i%3
		greatest := list(1, 2, tip.MaxLoad)[r.IntN(3)]
		longest := list(1, 2, tip.MaxLength)[r.IntN(3)]
		out = append(out, filled(randomLanes(r, many), some(r, 0, greatest, many), some(r, 1, longest, many-1)))
	}
	return out
}

func enough(t *testing.T, found map[string]int, kinds, least int) {
	t.Helper()
	if len(found) < kinds || slices.Min(slices.Collect(maps.Values(found))) < least {
		t.Errorf("too few samples: %v", found)
	}
}

// way returns all corners that lie between two, in the order in which they are away from the first.
func (x sample) way(from, to int) []int {
	var way []int
	for corner := range x.many() {
		if x.far[from][corner]+x.far[corner][to] == x.far[from][to] {
			way = append(way, corner)
		}
	}
	slices.SortFunc(way, func(a, b int) int { return x.far[from][a] - x.far[from][b] })
	return way
}

// length is the length of the lane between two corners, or 0.
func (x sample) length(a, b int) int {
	for _, l := range x.Lanes {
		if l[0] == a && l[1] == b || l[0] == b && l[1] == a {
			return l[2]
		}
	}
	return 0
}

// neighbours are the corners with which a corner has a lane.
func (x sample) neighbours(corner int) []int {
	var out []int
	for other := range x.many() {
		if x.length(corner, other) > 0 {
			out = append(out, other)
		}
	}
	return out
}

func (x sample) branch(corner, over int) []int {
	var branch []int
	for other := range x.many() {
		if slices.Contains(x.way(corner, other), over) {
			branch = append(branch, other)
		}
	}
	return branch
}

func (x sample) loadsAt(corners []int) int {
	sum := 0
	for _, corner := range corners {
		sum += x.Loads[corner]
	}
	return sum
}

func (x sample) all() []int {
	var l []int
	for corner := range x.many() {
		l = append(l, corner)
	}
	return l
}

func (x sample) isHeavy(branch []int) bool {
	return x.loadsAt(branch) > x.loadsAt(x.all())-x.loadsAt(branch)
}

// cost returns the cost of tips.
func (x sample) cost(tips ...int) int {
	sum := 0
	for corner, loads := range x.Loads {
		near := never
		for _, t := range tips {
			near = min(near, x.far[corner][t])
		}
		sum += loads * near
	}
	return sum
}

func (x sample) radius(corner int) int { return slices.Max(x.far[corner]) }

// smallest returns all corners for which no other one has a smaller number.
func (x sample) smallest(number func(corner int) int) []int {
	isMore := func(corner int) bool {
		return slices.ContainsFunc(x.all(), func(other int) bool { return number(other) < number(corner) })
	}
	return slices.DeleteFunc(x.all(), isMore)
}

func (x sample) medians() []int {
	return x.smallest(func(corner int) int { return x.cost(corner) })
}

func (x sample) centres() []int { return x.smallest(x.radius) }

// longest returns all longest ways, in ascending order.
func (x sample) longest() [][]int {
	most := 0
	for _, l := range x.far {
		most = max(most, slices.Max(l))
	}
	var out [][]int
	for from := range x.far {
		for to := range x.far {
			if x.far[from][to] == most {
				out = append(out, x.way(from, to))
			}
		}
	}
	slices.SortFunc(out, slices.Compare)
	return out
}

// P9.1: all lists of so many lanes, whether one comes to all corners by them or not.
func TestAllLanes(t *testing.T) {
	found := map[api.Errno]int{}
	for many := 1; many <= 5; many++ {
		for _, which := range below(len(pairs(many)), many-1) {
			var lanes [][3]int
			for _, i := range which {
				lanes = append(lanes, pairs(many)[i])
			}
			m := market(equal(many, 1), lanes...)
			want := api.ErrShape
			if measured(m).isWhole() {
				want = api.OK
			}
			if e := tip.Check(m); e != want {
				t.Errorf("Check of %v: %d, want %d", m, e, want)
			}
			found[want]++
		}
	}
	// there are 1, 1, 3, 16 and 125 trees, in all orders of their lanes
	if found[api.OK] != 1+1+3*2+16*6+125*24 || found[api.ErrShape] < 1000 {
		t.Errorf("samples: %v", found)
	}
}

// P9.2 and P9.13, by the definitions.
func TestAllWays(t *testing.T) {
	for _, x := range samples() {
		if x.many() < 5 && x.loadsAt(x.all()) > 0 {
			// a way does not depend on loads, so that one of all small markets with these lanes is enough
			continue
		}
		for from := range x.far {
			for to, want := range x.far[from] {
				way, far := must(tip.Way(x.Market, from, to)), must(tip.Far(x.Market, from, to))
				if !slices.Equal(way, x.way(from, to)) || far != want {
					t.Errorf("%v, %d to %d: %v, as far as %d, want %v and %d", x, from, to, way, far, x.way(from, to), want)
				}
				x.checkWay(t, way, far)
			}
		}
	}
}

// checkWay checks that a way is as far as its lanes are long, the way back, and both parts of it.
func (x sample) checkWay(t *testing.T, way []int, far int) {
	from, to := way[0], end(way)
	sum := 0
	for i, corner := range way {
		if slices.Contains(way[:i], corner) {
			t.Errorf("%v: %v comes twice to %d", x, way, corner)
		}
		if i > 0 {
			length := x.length(way[i-1], corner)
			if length == 0 {
				t.Errorf("%v: %v has no lane to %d", x, way, corner)
			}
			sum += length
		}
		begin, rest := must(tip.Way(x.Market, from, corner)), must(tip.Way(x.Market, corner, to))
		if !slices.Equal(begin, way[:i+1]) || !slices.Equal(rest, way[i:]) {
			t.Errorf("%v: %v has the parts %v and %v", x, way, begin, rest)
		}
		if a, b := must(tip.Far(x.Market, from, corner)), must(tip.Far(x.Market, corner, to)); a+b != far {
			t.Errorf("%v: %v is as far as %d and %d, not %d", x, way, a, b, far)
		}
	}
	if sum != far {
		t.Errorf("%v: the lanes of %v are together %d, not %d", x, way, sum, far)
	}
	slices.Reverse(way)
	if back := must(tip.Way(x.Market, to, from)); !slices.Equal(back, way) || must(tip.Far(x.Market, to, from)) != far {
		t.Errorf("%v: the way back is %v, want %v", x, back, way)
	}
}

func end(way []int) int { return way[len(way)-1] }

// P9.2, P9.3 and P9.5, by the definitions.
func TestAllPlaces(t *testing.T) {
	found := map[string]int{}
	for _, x := range samples() {
		for corner := range x.far {
			if n := must(tip.Cost(x.Market, corner)); n != x.cost(corner) {
				t.Errorf("Cost of %v, %d: %d, want %d", x, corner, n, x.cost(corner))
			}
			if n := must(tip.Radius(x.Market, corner)); n != x.radius(corner) {
				t.Errorf("Radius of %v, %d: %d, want %d", x, corner, n, x.radius(corner))
			}
		}
		medians, centres, longest := x.medians(), x.centres(), x.longest()
		if l := must(tip.Medians(x.Market)); !slices.Equal(l, medians) {
			t.Errorf("Medians of %v: %v, want %v", x, l, medians)
		}
		if l := must(tip.Centres(x.Market)); !slices.Equal(l, centres) {
			t.Errorf("Centres of %v: %v, want %v", x, l, centres)
		}
		if l := must(tip.Longest(x.Market)); !slices.Equal(l, longest[0]) {
			t.Errorf("Longest of %v: %v, want %v", x, l, longest[0])
		}
		if len(medians) > 1 {
			found["several medians"]++
		}
		if len(centres) > 1 {
			found["two centres"]++
		}
		if !slices.ContainsFunc(medians, func(corner int) bool { return slices.Contains(centres, corner) }) {
			found["no median is a centre"]++
		}
		if len(longest) > 2 && longest[0][0] == longest[1][0] {
			found["several longest ways from one corner"]++
			if end(longest[0]) > end(longest[1]) {
				found["the first one of them does not have the smallest end"]++
			}
		}
	}
	enough(t, found, 5, 20)
}

// P9.4 and P9.8, by the definitions.
func TestAllBranches(t *testing.T) {
	found := map[string]int{}
	for _, x := range samples() {
		for corner := range x.far {
			isMedian, heavy := slices.Contains(x.medians(), corner), []int(nil)
			for over := range x.far {
				branch, proof := x.branch(corner, over), api.OK
				want := api.OK
				if !slices.Contains(x.neighbours(corner), over) {
					branch, want, proof = nil, api.ErrShape, api.ErrShape
				} else if !x.isHeavy(branch) {
					proof = api.ErrProof
				}
				if l, e := tip.Branch(x.Market, corner, over); !slices.Equal(l, branch) || e != want {
					t.Errorf("Branch of %v, %d over %d: %v %d, want %v %d", x, corner, over, l, e, branch, want)
				}
				if e := tip.Proves(x.Market, corner, over); e != proof {
					t.Errorf("Proves of %v, %d over %d: %d, want %d", x, corner, over, e, proof)
				}
				if proof == api.OK {
					heavy = append(heavy, over)
				}
				if want == api.OK {
					x.checkMove(t, corner, over)
				}
				if want == api.OK && 2*x.loadsAt(branch) == x.loadsAt(x.all()) && x.loadsAt(branch) > 0 {
					found["just half of all loads"]++
				}
			}
			over, e := tip.Why(x.Market, corner)
			if isMedian {
				found["a median"]++
				if len(heavy) > 0 || over != 0 || e != api.ErrClash {
					t.Errorf("Why of %v, %d: %d %d, but it is a median; heavy over %v", x, corner, over, e, heavy)
				}
				continue
			}
			found["no median"]++
			if len(heavy) != 1 || over != heavy[0] || e != api.OK {
				t.Errorf("Why of %v, %d: %d %d, heavy over %v", x, corner, over, e, heavy)
			}
		}
	}
	enough(t, found, 3, 100)
}

// checkMove checks what it costs to be at a corner instead of a neighbour.
func (x sample) checkMove(t *testing.T, corner, over int) {
	branch := must(tip.Branch(x.Market, corner, over))
	length := must(tip.Far(x.Market, corner, over))
	here, there := x.loadsAt(branch), x.loadsAt(x.all())
	cost, other := must(tip.Cost(x.Market, corner)), must(tip.Cost(x.Market, over))
	if cost != other+length*here-length*(there-here) {
		t.Errorf("%v: %d costs %d, and %d costs %d; %d loads are there", x, corner, cost, over, other, here)
	}
}

// P9.6 and P9.11, by the definitions.
func TestAllVotes(t *testing.T) {
	found := map[string]int{}
	for _, x := range samples() {
		medians := must(tip.Medians(x.Market))
		for a := range x.far {
			beaten := false
			for b := range x.far {
				forA, forB, e := tip.Votes(x.Market, a, b)
				if a == b {
					if forA != 0 || forB != 0 || e != api.ErrTwice {
						t.Errorf("Votes of %v, %d and %d: %d %d %d", x, a, b, forA, forB, e)
					}
					continue
				}
				wantA, wantB := 0, 0
				for corner, loads := range x.Loads {
					if x.far[corner][a] < x.far[corner][b] {
						wantA += loads
					} else if x.far[corner][a] > x.far[corner][b] {
						wantB += loads
					} else if loads > 0 {
						found["votes for none"]++
					}
				}
				if forA != wantA || forB != wantB || e != api.OK {
					t.Errorf("Votes of %v, %d and %d: %d %d %d, want %d %d", x, a, b, forA, forB, e, wantA, wantB)
				}
				if slices.Contains(medians, a) && forB > forA {
					t.Errorf("Votes of %v: %d for the median %d, %d for %d", x, forA, a, forB, b)
				}
				beaten = beaten || x.length(a, b) > 0 && forA < forB
			}
			if beaten == slices.Contains(medians, a) {
				t.Errorf("Votes of %v: more for a neighbour of %d: %v, medians are %v", x, a, beaten, medians)
			}
			if beaten {
				found["more votes for a neighbour"]++
			}
		}
	}
	enough(t, found, 2, 1000)
}

// choices has, for each number of corners, all lists of at least one of them, in ascending order.
var choices = func() (out [tip.MaxCorners + 1][][]int) {
	for many := range out {
		out[many] = from(0, many)[1:]
	}
	return out
}()

// from returns all lists of corners from a first one on, in ascending order.
func from(first, many int) [][]int {
	out := lists(nil)
	for i := first; i < many; i++ {
		for _, l := range from(i+1, many) {
			out = append(out, slices.Concat(list(i), l))
		}
	}
	return out
}

// P9.7 and P9.12, by the definitions.
func TestAllTips(t *testing.T) {
	found := map[string]int{}
	for _, x := range samples() {
		best, same := make([][]int, x.many()+1), make([]int, x.many()+1)
		for _, tips := range choices[x.many()] {
			cost := x.cost(tips...)
			if n := must(tip.Tips(x.Market, tips)); n != cost {
				t.Errorf("Tips of %v, %v: %d, want %d", x, tips, n, cost)
			}
			many := len(tips)
			if best[many] == nil || cost < x.cost(best[many]...) {
				best[many], same[many] = tips, 0
			}
			if cost == x.cost(best[many]...) {
				same[many]++
			}
		}
		for many := 1; many <= x.many(); many++ {
			tips := must(tip.Best(x.Market, many))
			if !slices.Equal(tips, best[many]) {
				t.Errorf("Best of %v, %d: %v, want %v", x, many, tips, best[many])
			}
			if many > 1 && must(tip.Tips(x.Market, tips)) > must(tip.Tips(x.Market, best[many-1])) {
				t.Errorf("Best of %v: %v costs more than %v", x, tips, best[many-1])
			}
			if same[many] > 1 {
				found["several lists of tips cost as little"]++
			}
			if many > 1 && !slices.Contains(tips, best[1][0]) {
				found["the median alone, but not with others"]++
			}
		}
		if first := must(tip.Best(x.Market, 1)); !slices.Equal(first, must(tip.Medians(x.Market))[:1]) {
			t.Errorf("Best of %v, 1: %v", x, first)
		}
		if n := must(tip.Tips(x.Market, x.all())); n != 0 {
			t.Errorf("Tips of %v at all corners: %d", x, n)
		}
	}
	enough(t, found, 2, 500)
}

// P9.9
func TestMediansAndLengths(t *testing.T) {
	r := rand.New(rand.NewPCG(9, 1))
	found := map[string]int{}
	for _, x := range samples() {
		medians := must(tip.Medians(x.Market))
		for range 3 {
			other := filled(x.Lanes, x.Loads, some(r, 1, tip.MaxLength, x.many()-1))
			if l := must(tip.Medians(other.Market)); !slices.Equal(l, medians) {
				t.Errorf("Medians of %v: %v, but of %v: %v", x, medians, other, l)
			}
		}
		if x.loadsAt(x.all()) == 0 {
			found["without loads"]++
			continue
		}
		isOn := false
		for from := range x.far {
			for to := range x.far {
				isOff := func(corner int) bool { return !slices.Contains(x.way(from, to), corner) }
				isOn = isOn || !slices.ContainsFunc(medians, isOff)
			}
		}
		if !isOn {
			t.Errorf("Medians of %v: %v, which are not on one way", x, medians)
		}
		if len(medians) > 2 {
			found["more than two medians"]++
		}
	}
	enough(t, found, 2, 50)
}

// P9.10
func TestCentresAndLongest(t *testing.T) {
	found := map[string]int{}
	for _, x := range samples() {
		centres := must(tip.Centres(x.Market))
		if len(centres) > 2 || len(centres) == 2 && x.length(centres[0], centres[1]) == 0 {
			t.Errorf("Centres of %v: %v", x, centres)
		}
		ways := x.longest()
		if !slices.ContainsFunc(ways, func(l []int) bool { return slices.Equal(l, must(tip.Longest(x.Market))) }) {
			t.Errorf("Longest of %v is none of %v", x, ways)
		}
		for _, way := range ways {
			for _, centre := range centres {
				if !slices.Contains(way, centre) {
					t.Errorf("Centres of %v: %v, not all on %v", x, centres, way)
				}
			}
			for corner := range x.far {
				a, b := must(tip.Far(x.Market, corner, way[0])), must(tip.Far(x.Market, corner, end(way)))
				if n := must(tip.Radius(x.Market, corner)); n != max(a, b) {
					t.Errorf("Radius of %v, %d: %d, but the ends of %v are as far as %d and %d", x, corner, n, way, a, b)
				}
			}
		}
		if len(ways) > 2 {
			found["several longest ways"]++
		}
		if len(centres) == 2 {
			found["two centres"]++
		}
	}
	enough(t, found, 2, 100)
}

// M5: with other numbers of corners, and lanes in another order, all is the same but for these numbers.
func TestNames(t *testing.T) {
	r := rand.New(rand.NewPCG(9, 2))
	for _, x := range samples() {
		names := r.Perm(x.many())
		other := market(equal(x.many(), 0))
		for corner, loads := range x.Loads {
			other.Loads[names[corner]] = loads
		}
		for _, i := range r.Perm(len(x.Lanes)) {
			a, b := names[x.Lanes[i][0]], names[x.Lanes[i][1]]
			other.Lanes = append(other.Lanes, lane(min(a, b), max(a, b), x.Lanes[i][2]))
		}
		named := func(l []int) []int {
			var out []int
			for _, corner := range l {
				out = append(out, names[corner])
			}
			return out
		}
		for name, f := range map[string]func(tip.Market) ([]int, api.Errno){"Medians": tip.Medians, "Centres": tip.Centres} {
			want := slices.Sorted(slices.Values(named(must(f(x.Market)))))
			if l := must(f(other)); !slices.Equal(l, want) {
				t.Errorf("%s of %v: %v, want %v, as of %v", name, other, l, want, x)
			}
		}
		for a := range x.far {
			for name, want := range ofCorner(x.Market, a) {
				if name == "Why" && want.e == api.OK {
					want.a = names[want.a]
				}
				if r := ofCorner(other, names[a])[name]; !r.same(want) {
					t.Errorf("%s of %v, %d: %v, want %v", name, other, names[a], r, want)
				}
			}
			b := r.IntN(x.many())
			for name, want := range ofPairs(x.Market, a, b) {
				want.l = named(want.l)
				if name == "Branch" {
					slices.Sort(want.l)
				}
				if r := ofPairs(other, names[a], names[b])[name]; !r.same(want) {
					t.Errorf("%s of %v, %d and %d: %v, want %v", name, other, names[a], names[b], r, want)
				}
			}
		}
	}
}
