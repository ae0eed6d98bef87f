package deal_test

import (
	"cmp"
	"maps"
	"math/rand/v2"
	"slices"
	"testing"

	"breeze/api"
	"breeze/deal"
)

// sample is costs and loads.
type sample struct {
	costs [][]int
	l     deal.Loads
}

func sum(l []int) int {
	sum := 0
	for _, n := range l {
		sum += n
	}
	return sum
}

// below returns all lists of so many numbers, each less than limit, in ascending order.
func below(limit, many int) [][]int {
	if many == 0 {
		return lists(nil)
	}
	var out [][]int
	for _, l := range below(limit, many-1) {
		for n := range limit {
			out = append(out, append(slices.Clip(l), n))
		}
	}
	return out
}

// cut makes a list for each heap of numbers that are written one after the other.
func cut(numbers []int, buyers int) [][]int { return slices.Collect(slices.Chunk(numbers, buyers)) }

// allCosts returns all costs less than limit.
func allCosts(limit, heaps, buyers int) [][][]int {
	var out [][][]int
	for _, numbers := range below(limit, heaps*buyers) {
		out = append(out, cut(numbers, buyers))
	}
	return out
}

// allLoads returns all loads less than limit.
func allLoads(limit, heaps, buyers int) []deal.Loads {
	var out []deal.Loads
	for _, has := range below(limit, heaps) {
		for _, wants := range below(limit, buyers) {
			if sum(has) == sum(wants) {
				out = append(out, loads(has, wants))
			}
		}
	}
	return out
}

// someCosts returns costs less than limit.
func someCosts(r *rand.Rand, limit, heaps, buyers int) [][]int {
	numbers := equal(heaps*buyers, 0)
	for i := range numbers {
		numbers[i] = r.IntN(limit)
	}
	return cut(numbers, buyers)
}

// straightCosts returns straight costs: what is added to all costs of a heap, and of a buyer, and
// what is added to all of the first buyers for the last heaps.
func straightCosts(r *rand.Rand, heaps, buyers int) [][]int {
	costs := make([][]int, heaps)
	first, second := equal(heaps, 0), equal(buyers, 0)
	for i := range first {
		first[i] = r.IntN(5)
	}
	for j := range second {
		second[j] = r.IntN(5)
	}
	for i := range costs {
		for j := range second {
			costs[i] = append(costs[i], first[i]+second[j])
		}
	}
	for i := 1; i < heaps; i++ {
		for j := range buyers - 1 {
			more := r.IntN(3)
			for k := i; k < heaps; k++ {
				for l := range j + 1 {
					costs[k][l] += more
				}
			}
		}
	}
	return costs
}

// someLoads returns loads up to a limit.
func someLoads(r *rand.Rand, limit, heaps, buyers int) deal.Loads {
	l := loads(equal(heaps, 0), equal(buyers, 0))
	for range r.IntN(limit*min(heaps, buyers) + 1) {
		add(r, limit, l.Has)
		add(r, limit, l.Wants)
	}
	return l
}

// add adds a load to a number that has not yet reached the limit.
func add(r *rand.Rand, limit int, l []int) {
	i := r.IntN(len(l))
	for l[i] == limit {
		i = (i + 1) % len(l)
	}
	l[i]++
}

// inOrder returns the costs of heaps and buyers in another order.
func inOrder(costs [][]int, heaps, buyers []int) [][]int {
	out := make([][]int, len(heaps))
	for k, i := range heaps {
		for _, j := range buyers {
			out[k] = append(out[k], costs[i][j])
		}
	}
	return out
}

// great returns some costs and loads up to the limits: any costs, straight ones, and those that have
// been straight in another order.
func great() []sample {
	var out []sample
	r := rand.New(rand.NewPCG(8, 0))
	for i := range 2500 {
		heaps, buyers := 1+r.IntN(deal.MaxHeaps), 1+r.IntN(deal.MaxBuyers)
		costs := someCosts(r, list(2, 4, deal.MaxCost+1)[i%3], heaps, buyers)
		if i%5 > 2 {
			costs = straightCosts(r, heaps, buyers)
		}
		if i%5 == 4 {
			costs = inOrder(costs, r.Perm(heaps), r.Perm(buyers))
		}
		out = append(out, sample{costs, someLoads(r, list(1, 2, 3, deal.MaxLoads)[i%4], heaps, buyers)})
	}
	return out
}

// samples returns all costs and loads below 3 of two heaps and two buyers, and the great ones.
func samples() []sample {
	out := great()
	for _, costs := range allCosts(3, 2, 2) {
		for _, l := range allLoads(3, 2, 2) {
			out = append(out, sample{costs, l})
		}
	}
	return out
}

// rows returns all lists of numbers with a sum that are at most these, in ascending order.
func rows(sum int, most []int) [][]int {
	if len(most) == 0 {
		if sum == 0 {
			return lists(nil)
		}
		return nil
	}
	var out [][]int
	for n := range min(sum, most[0]) + 1 {
		for _, l := range rows(sum-n, most[1:]) {
			out = append(out, append(list(n), l...))
		}
	}
	return out
}

// deals returns all deals, in ascending order.
func deals(has, wants []int) [][][]int {
	if len(has) == 0 {
		if sum(wants) == 0 {
			return [][][]int{nil}
		}
		return nil
	}
	var out [][][]int
	for _, row := range rows(has[0], wants) {
		left := slices.Clone(wants)
		for j := range left {
			left[j] -= row[j]
		}
		for _, d := range deals(has[1:], left) {
			out = append(out, append(lists(row), d...))
		}
	}
	return out
}

func (x sample) deals() [][][]int { return deals(x.l.Has, x.l.Wants) }

func (x sample) cost(goes [][]int) int {
	sum := 0
	for i := range goes {
		for j := range goes[i] {
			sum += goes[i][j] * x.costs[i][j]
		}
	}
	return sum
}

func (x sample) cheapest() [][]int {
	return slices.MinFunc(x.deals(), func(a, b [][]int) int { return cmp.Compare(x.cost(a), x.cost(b)) })
}

// corner is the corner deal: if the loads of the heaps are laid in a row, one heap behind the other,
// and those of the buyers below them, so many of a heap lie above those of a buyer.
func (x sample) corner() [][]int {
	var out [][]int
	for i, has := range x.l.Has {
		var row []int
		begin := sum(x.l.Has[:i])
		for j, wants := range x.l.Wants {
			from := sum(x.l.Wants[:j])
			row = append(row, max(0, min(begin+has, from+wants)-max(begin, from)))
		}
		out = append(out, row)
	}
	return out
}

// P8.2 and P8.3, by the definitions.
func TestAllDeals(t *testing.T) {
	found := map[string]int{}
	for _, x := range samples() {
		all := x.deals()
		if n := must(deal.Count(x.costs, x.l)); n != len(all) {
			t.Errorf("Count of %v: %d, want %d", x, n, len(all))
		}
		corner, cheapest := x.corner(), x.cheapest()
		if goes := must(deal.Corner(x.costs, x.l)); !sameLists(goes, corner) {
			t.Errorf("Corner of %v: %v, want %v", x, goes, corner)
		}
		if goes := must(deal.Cheapest(x.costs, x.l)); !sameLists(goes, cheapest) {
			t.Errorf("Cheapest of %v: %v, want %v", x, goes, cheapest)
		}
		same := 0
		for _, goes := range all {
			if n, e := deal.Cost(x.costs, x.l, goes); n != x.cost(goes) || e != api.OK {
				t.Errorf("Cost of %v, %v: %d %d, want %d", x, goes, n, e, x.cost(goes))
			}
			if x.cost(goes) == x.cost(cheapest) {
				same++
			}
		}
		if len(all) > 100 {
			found["with many deals"]++
		}
		if same > 1 && same < len(all) {
			found["with several that cost least"]++
		}
		if !sameLists(cheapest, all[0]) && !sameLists(cheapest, corner) {
			found["with a cheapest one that is neither the first one nor the corner deal"]++
		}
		if x.cost(cheapest) < x.cost(corner) {
			found["with one cheaper than the corner deal"]++
		}
	}
	if len(found) < 4 || slices.Min(slices.Collect(maps.Values(found))) < 30 {
		t.Errorf("too few samples: %v", found)
	}
}

// costError is the error of Cost, by the definition.
func (x sample) costError(goes [][]int) api.Errno {
	came := equal(len(x.l.Wants), 0)
	for i := range goes {
		for j, n := range goes[i] {
			if n < 0 || n > deal.MaxLoads {
				return api.ErrRange
			}
			came[j] += n
		}
	}
	for i := range goes {
		if sum(goes[i]) != x.l.Has[i] {
			return api.ErrSum
		}
	}
	if !slices.Equal(came, x.l.Wants) {
		return api.ErrSum
	}
	return api.OK
}

// P8.2: Cost of what is nearly a deal.
func TestCostOfOthers(t *testing.T) {
	r := rand.New(rand.NewPCG(8, 1))
	found := map[api.Errno]int{}
	for _, x := range samples() {
		goes := x.corner()
		for range 5 {
			// a load goes from another heap, or to another buyer, or there is one more or less
			i, j := r.IntN(len(goes)), r.IntN(len(goes[0]))
			k, l := r.IntN(len(goes)), r.IntN(len(goes[0]))
			switch r.IntN(4) {
			case 0:
				goes[i][j]++
				goes[k][j]--
			case 1:
				goes[i][j]++
				goes[i][l]--
			case 2:
				goes[i][j] += 1 - 2*r.IntN(2)
			case 3:
				goes[i][j]++
				goes[k][l]++
				goes[i][l]--
				goes[k][j]--
			}
			want, wantE := 0, x.costError(goes)
			if wantE == api.OK {
				want = x.cost(goes)
			}
			if n, e := deal.Cost(x.costs, x.l, goes); n != want || e != wantE {
				t.Errorf("Cost of %v, %v: %d %d, want %d %d", x, goes, n, e, want, wantE)
			}
			found[wantE]++
		}
	}
	if found[api.OK] < 100 || found[api.ErrRange] < 100 || found[api.ErrSum] < 100 || len(found) != 3 {
		t.Errorf("too few samples: %v", found)
	}
}

// orders returns all orders of so many numbers, in ascending order.
func orders(many int) [][]int {
	isNone := func(l []int) bool { return len(slices.Compact(slices.Sorted(slices.Values(l)))) < many }
	return slices.DeleteFunc(below(many, many), isNone)
}

// whys returns all lists by which costs are not straight, in ascending order.
func whys(costs [][]int) [][]int {
	var out [][]int
	for _, l := range below(deal.MaxBuyers, 4) {
		if l[1] >= len(costs) || l[3] >= len(costs[0]) || l[0] >= l[1] || l[2] >= l[3] {
			continue
		}
		heap, other, buyer, another := l[0], l[1], l[2], l[3]
		if costs[heap][buyer]+costs[other][another] > costs[heap][another]+costs[other][buyer] {
			out = append(out, l)
		}
	}
	return out
}

// straightening returns all orders of heaps and buyers that make costs straight, in ascending order.
func straightening(costs [][]int) [][2][]int {
	var out [][2][]int
	for _, heaps := range orders(len(costs)) {
		for _, buyers := range orders(len(costs[0])) {
			if len(whys(inOrder(costs, heaps, buyers))) == 0 {
				out = append(out, [2][]int{heaps, buyers})
			}
		}
	}
	return out
}

// manyCosts returns all costs below 3 of up to six numbers, all below 2 of three heaps and three
// buyers, and those of the great samples.
func manyCosts() [][][]int {
	out := allCosts(2, 3, 3)
	for heaps := 1; heaps <= deal.MaxHeaps; heaps++ {
		for buyers := 1; buyers <= deal.MaxBuyers && heaps*buyers <= 6; buyers++ {
			out = append(out, allCosts(3, heaps, buyers)...)
		}
	}
	for _, x := range great() {
		out = append(out, x.costs)
	}
	return out
}

// P8.4, by the definitions.
func TestAllStraight(t *testing.T) {
	found := map[string]int{}
	for _, costs := range manyCosts() {
		why := whys(costs)
		if is := must(deal.Straight(costs)); is != (len(why) == 0) {
			t.Errorf("Straight of %v: %v", costs, is)
		}
		l, e := deal.Why(costs)
		if len(why) == 0 && (len(l) > 0 || e != api.ErrClash) || len(why) > 0 && (!slices.Equal(l, why[0]) || e != api.OK) {
			t.Errorf("Why of %v: %v %d, of %v", costs, l, e, why)
		}
		heaps, buyers, e := deal.Orders(costs)
		all := straightening(costs)
		if len(all) == 0 {
			found["lost"]++
			if len(heaps) > 0 || len(buyers) > 0 || e != api.ErrLost {
				t.Errorf("Orders of %v: %v %v %d", costs, heaps, buyers, e)
			}
			continue
		}
		if !slices.Equal(heaps, all[0][0]) || !slices.Equal(buyers, all[0][1]) || e != api.OK {
			t.Errorf("Orders of %v: %v %v %d, want %v", costs, heaps, buyers, e, all[0])
		}
		if len(why) == 0 {
			found["straight"]++
		} else if slices.IsSorted(heaps) {
			found["buyers in another order"]++
		} else {
			found["heaps in another order"]++
		}
	}
	if len(found) < 4 || slices.Min(slices.Collect(maps.Values(found))) < 100 {
		t.Errorf("too few samples: %v", found)
	}
}

// P8.7
func TestStraightByDeals(t *testing.T) {
	few := map[[2]int][]deal.Loads{}
	for heaps := 1; heaps <= deal.MaxHeaps; heaps++ {
		for buyers := 1; buyers <= deal.MaxBuyers; buyers++ {
			few[[2]int{heaps, buyers}] = allLoads(2, heaps, buyers)
		}
	}
	r := rand.New(rand.NewPCG(8, 2))
	found := map[bool]int{}
	for _, costs := range manyCosts() {
		heaps, buyers := len(costs), len(costs[0])
		all := slices.Clone(few[[2]int{heaps, buyers}])
		for range 3 {
			all = append(all, someLoads(r, deal.MaxLoads, heaps, buyers))
		}
		is := true
		for _, l := range all {
			x := sample{costs, l}
			corner, cheapest := must(deal.Corner(costs, l)), must(deal.Cheapest(costs, l))
			if x.cost(corner) != x.cost(cheapest) {
				is = false
				break
			}
		}
		if straight := must(deal.Straight(costs)); straight != is {
			t.Errorf("Straight of %v: %v", costs, straight)
		}
		found[is]++
	}
	if found[false] < 300 || found[true] < 300 {
		t.Errorf("too few samples: %v", found)
	}
}

// somePrices returns prices that are about as great as they can be: the greatest ones of buyers for
// some of heaps, of which some are then changed.
func somePrices(r *rand.Rand, costs [][]int) deal.Prices {
	var p deal.Prices
	for range costs {
		p.Heaps = append(p.Heaps, r.IntN(7)-3)
	}
	for j := range costs[0] {
		most := deal.MaxCost + 3
		for i := range costs {
			most = min(most, costs[i][j]-p.Heaps[i])
		}
		p.Buyers = append(p.Buyers, most)
	}
	switch r.IntN(4) {
	case 0:
		p.Buyers[r.IntN(len(p.Buyers))] += r.IntN(3) - 1
	case 1:
		p.Heaps[r.IntN(len(p.Heaps))] += r.IntN(3) - 1
	}
	return p
}

func (x sample) worth(p deal.Prices) int {
	sum := 0
	for i, has := range x.l.Has {
		sum += has * p.Heaps[i]
	}
	for j, wants := range x.l.Wants {
		sum += wants * p.Buyers[j]
	}
	return sum
}

// areOver tells whether prices are together more than a cost.
func areOver(costs [][]int, p deal.Prices) bool {
	for i := range costs {
		for j := range costs[0] {
			if costs[i][j] < p.Heaps[i]+p.Buyers[j] {
				return true
			}
		}
	}
	return false
}

// P8.5, P8.6 and P8.8, by the definitions.
func TestPrices(t *testing.T) {
	r := rand.New(rand.NewPCG(8, 3))
	found := map[api.Errno]int{}
	for _, x := range samples() {
		all, least := x.deals(), x.cost(x.cheapest())
		for range 4 {
			p := somePrices(r, x.costs)
			want := api.OK
			if areOver(x.costs, p) {
				want = api.ErrOver
			}
			if e := deal.Priced(x.costs, p); e != want {
				t.Errorf("Priced of %v, %v: %d, want %d", x, p, e, want)
			}
			if want == api.OK && x.worth(p) > least {
				t.Errorf("%v, %v: worth %d, but a deal costs %d", x, p, x.worth(p), least)
			}
			for _, goes := range all[:min(len(all), 50)] {
				want := want
				if want == api.OK && x.worth(p) != x.cost(goes) {
					want = api.ErrProof
				}
				if e := deal.Proves(x.costs, x.l, goes, p); e != want {
					t.Errorf("Proves of %v, %v, %v: %d, want %d", x, goes, p, e, want)
				}
				if want == api.OK && x.cost(goes) != least {
					t.Errorf("Proves of %v, %v, %v: not the cheapest one", x, goes, p)
				}
				found[want]++
			}
		}
	}
	if found[api.OK] < 1000 || found[api.ErrOver] < 1000 || found[api.ErrProof] < 1000 {
		t.Errorf("too few samples: %v", found)
	}
}

// steps returns the steps of the corner deal, by the definition.
func (x sample) steps() [][2]int {
	has, wants := slices.Clone(x.l.Has), slices.Clone(x.l.Wants)
	var out [][2]int
	heap, buyer := 0, 0
	for {
		out = append(out, [2]int{heap, buyer})
		goes := min(has[heap], wants[buyer])
		has[heap], wants[buyer] = has[heap]-goes, wants[buyer]-goes
		if has[heap] == 0 && heap != len(has)-1 {
			heap++
			continue
		}
		if buyer == len(wants)-1 {
			return out
		}
		buyer++
	}
}

// P8.5 and P8.8: what Prove returns.
func TestAllProve(t *testing.T) {
	found := map[string]int{}
	for _, x := range samples() {
		p, e := deal.Prove(x.costs, x.l)
		if len(whys(x.costs)) > 0 {
			if e != api.ErrClash || len(p.Heaps) > 0 || len(p.Buyers) > 0 {
				t.Errorf("Prove of %v: %v %d", x, p, e)
			}
			found["not straight"]++
			continue
		}
		if e != api.OK || len(p.Heaps) != len(x.costs) || len(p.Buyers) != len(x.costs[0]) {
			t.Errorf("Prove of %v: %v %d", x, p, e)
			continue
		}
		steps := x.steps()
		for _, s := range steps {
			if p.Heaps[0] != 0 || p.Heaps[s[0]]+p.Buyers[s[1]] != x.costs[s[0]][s[1]] {
				t.Errorf("Prove of %v: %v, with the step %v", x, p, s)
			}
		}
		// no other prices are so, because each step has one more heap or buyer
		if len(steps) != len(x.costs)+len(x.costs[0])-1 {
			t.Errorf("steps of %v: %v", x, steps)
		}
		corner := must(deal.Corner(x.costs, x.l))
		if e := deal.Proves(x.costs, x.l, corner, p); e != api.OK {
			t.Errorf("Proves of %v, %v, %v: %d", x, corner, p, e)
		}
		found["straight"]++
		if len(steps) > 4 {
			found["with many steps"]++
		}
	}
	if found["not straight"] < 300 || found["straight"] < 300 || found["with many steps"] < 100 {
		t.Errorf("too few samples: %v", found)
	}
}

// told are results that do not tell how much is paid.
func (x sample) told() map[string]result {
	return map[string]result{
		"Corner":   several(deal.Corner(x.costs, x.l)),
		"Cheapest": several(deal.Cheapest(x.costs, x.l)),
		"Straight": truth(deal.Straight(x.costs)),
		"Why":      single(deal.Why(x.costs)),
		"Orders":   pair(deal.Orders(x.costs)),
	}
}

func copyOf(costs [][]int) [][]int {
	var out [][]int
	for _, l := range costs {
		out = append(out, slices.Clone(l))
	}
	return out
}

// add adds a number to all costs of a heap, or of a buyer, if there is room.
func (x sample) add(r *rand.Rand, more int) (sample, bool) {
	costs := copyOf(x.costs)
	i, j, isHeap := r.IntN(len(costs)), r.IntN(len(costs[0])), r.IntN(2) == 0
	for k := range costs {
		for l := range costs[k] {
			if isHeap && k == i || !isHeap && l == j {
				costs[k][l] += more
			}
		}
	}
	return sample{costs, x.l}, deal.Check(costs) == api.OK
}

// P8.9
func TestMoreOnAll(t *testing.T) {
	r := rand.New(rand.NewPCG(8, 4))
	found := 0
	for _, x := range samples() {
		other, ok := x.add(r, r.IntN(9)-3)
		if !ok {
			continue
		}
		want := x.told()
		for name, r := range other.told() {
			if !r.same(want[name]) {
				t.Errorf("%s of %v: %v, but %v of %v", name, x, want[name], r, other)
			}
		}
		found++
	}
	if found < 500 {
		t.Errorf("too few samples: %d", found)
	}
}

// back returns the same costs with heaps and buyers in the opposite order.
func back(costs [][]int) [][]int {
	out := copyOf(costs)
	slices.Reverse(out)
	for _, l := range out {
		slices.Reverse(l)
	}
	return out
}

// P8.9
func TestOtherOrders(t *testing.T) {
	for _, costs := range manyCosts() {
		if heaps, buyers, e := deal.Orders(costs); e == api.OK && !must(deal.Straight(inOrder(costs, heaps, buyers))) {
			t.Errorf("Orders of %v: %v %v, with which they are not straight", costs, heaps, buyers)
		}
		if must(deal.Straight(costs)) != must(deal.Straight(back(costs))) {
			t.Errorf("%v: straight, or not, but otherwise with both in the opposite order", costs)
		}
	}
}

// P8.10
func TestHowMany(t *testing.T) {
	r := rand.New(rand.NewPCG(8, 5))
	single := 0
	for _, x := range samples() {
		heaps, buyers := len(x.costs), len(x.costs[0])
		n := must(deal.Count(x.costs, x.l))
		if heaps == 1 || buyers == 1 {
			single++
			if n != 1 {
				t.Errorf("Count of %v: %d", x, n)
			}
		}
		has, wants := slices.Clone(x.l.Has), slices.Clone(x.l.Wants)
		r.Shuffle(heaps, func(i, k int) { has[i], has[k] = has[k], has[i] })
		r.Shuffle(buyers, func(i, k int) { wants[i], wants[k] = wants[k], wants[i] })
		if many := must(deal.Count(someCosts(r, deal.MaxCost+1, heaps, buyers), loads(has, wants))); many != n {
			t.Errorf("Count of %v: %d, but %d of %v, %v", x, n, many, has, wants)
		}
		above := 0
		for _, l := range must(deal.Corner(x.costs, x.l)) {
			above += len(slices.DeleteFunc(l, func(n int) bool { return n == 0 }))
		}
		if above >= heaps+buyers {
			t.Errorf("Corner of %v: %d numbers above 0", x, above)
		}
	}
	if single < 100 {
		t.Errorf("too few samples: %d", single)
	}
}

// least returns what the cheapest deal costs.
func (x sample) least() int {
	return must(deal.Cost(x.costs, x.l, must(deal.Cheapest(x.costs, x.l))))
}

// P8.11
func TestLess(t *testing.T) {
	r := rand.New(rand.NewPCG(8, 6))
	cheaper := 0
	for _, x := range samples() {
		other := sample{copyOf(x.costs), x.l}
		for _, l := range other.costs {
			j := r.IntN(len(l))
			l[j] = r.IntN(l[j] + 1)
		}
		if other.least() > x.least() {
			t.Errorf("%v: %d, but %d of %v", x, x.least(), other.least(), other)
		}
		if other.least() < x.least() {
			cheaper++
		}
	}
	if cheaper < 300 {
		t.Errorf("too few samples: %d", cheaper)
	}
}

// P8.11
func TestDouble(t *testing.T) {
	twice := func(l []int) []int {
		out := slices.Clone(l)
		for i := range out {
			out[i] *= 2
		}
		return out
	}
	found := 0
	for _, x := range samples() {
		other := sample{x.costs, loads(twice(x.l.Has), twice(x.l.Wants))}
		if deal.Loaded(other.costs, other.l) != api.OK {
			continue
		}
		found++
		corner, double := must(deal.Corner(x.costs, x.l)), must(deal.Corner(other.costs, other.l))
		if other.least() != 2*x.least() || other.cost(double) != 2*x.cost(corner) {
			t.Errorf("%v: %d and %v, but %d and %v with all loads doubled", x, x.least(), corner, other.least(), double)
		}
	}
	if found < 500 {
		t.Errorf("too few samples: %d", found)
	}
}

// turned returns the costs with heaps and buyers in each other's places.
func turned(costs [][]int) [][]int {
	out := make([][]int, len(costs[0]))
	for _, l := range costs {
		for j, cost := range l {
			out[j] = append(out[j], cost)
		}
	}
	return out
}

// P8.12
func TestTurned(t *testing.T) {
	found := 0
	for _, x := range samples() {
		if len(x.costs[0]) > deal.MaxHeaps {
			continue
		}
		found++
		other := sample{turned(x.costs), loads(x.l.Wants, x.l.Has)}
		if must(deal.Straight(x.costs)) != must(deal.Straight(other.costs)) || x.least() != other.least() {
			t.Errorf("%v and %v: not the same", x, other)
		}
	}
	if found < 500 {
		t.Errorf("too few samples: %d", found)
	}
}
