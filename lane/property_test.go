package lane_test

import (
	"iter"
	"math/rand/v2"
	"slices"
	"testing"

	"breeze/api"
	"breeze/lane"
)

type sample struct {
	p lane.Parish
	x lane.Places
}

// choices yields the ascending lists of so many of some corners, in ascending order.
func choices(corners []int, many int) iter.Seq[[]int] {
	return func(yield func([]int) bool) {
		var add func(l, left []int) bool
		add = func(l, left []int) bool {
			if len(l) == many {
				return yield(slices.Clone(l))
			}
			for i, c := range left {
				if !add(append(l, c), left[i+1:]) {
					return false
				}
			}
			return true
		}
		add(nil, corners)
	}
}

// orders returns the lists of numbers that have the same ones in another order, and themselves.
func orders(numbers []int) [][]int {
	if len(numbers) == 0 {
		return lists(nil)
	}
	var out [][]int
	for i, n := range numbers {
		for _, l := range orders(slices.Concat(numbers[:i], numbers[i+1:])) {
			out = append(out, slices.Concat(list(n), l))
		}
	}
	return out
}

// sign is 1 if an even number of pairs have the greater number first.
func sign(order []int) int {
	s := 1
	for i, a := range order {
		for _, b := range order[i:] {
			if a > b {
				s = -s
			}
		}
	}
	return s
}

func all(p lane.Parish) []int {
	var out []int
	for i := range p.Rows * p.Columns {
		out = append(out, i)
	}
	return out
}

func openCorners(p lane.Parish) []int {
	return slices.DeleteFunc(all(p), func(c int) bool { return slices.Contains(p.Shut, c) })
}

// parishes yields all parishes with up to so many corners.
func parishes(most int) iter.Seq[lane.Parish] {
	return func(yield func(lane.Parish) bool) {
		for rows := 1; rows <= lane.MaxSide; rows++ {
			for columns := 1; columns <= lane.MaxSide && rows*columns <= most; columns++ {
				p := parish(rows, columns)
				for shut := range len(all(p)) {
					for l := range choices(all(p), shut) {
						if p.Shut = l; !yield(p) {
							return
						}
					}
				}
			}
		}
	}
}

// small returns all parishes with up to 6 corners, with all places of one and of two carts, and of
// three carts if there are up to 4 corners.
func small() []sample {
	var out []sample
	for p := range parishes(6) {
		free := openCorners(p)
		for many := 1; many <= min(3, len(free)); many++ {
			if many == 3 && len(all(p)) > 4 {
				continue
			}
			for a := range choices(free, many) {
				for b := range choices(free, many) {
					for _, yards := range orders(a) {
						for _, tips := range orders(b) {
							out = append(out, sample{p, places(yards, tips)})
						}
					}
				}
			}
		}
	}
	return out
}

// mixed returns parishes of up to 4 rows and columns, most of them with yards above the tips.
func mixed(many int) []sample {
	r := rand.New(rand.NewPCG(4, 1))
	var out []sample
	for len(out) < many {
		p := parish(2+r.IntN(3), 2+r.IntN(3))
		for _, c := range all(p) {
			if r.IntN(8) == 0 {
				p.Shut = append(p.Shut, c)
			}
		}
		free := openCorners(p)
		carts := 1 + r.IntN(3)
		if len(free) < 2*carts {
			continue
		}
		from, to := free, free
		if r.IntN(3) > 0 {
			from, to = free[:(len(free)+1)/2], free[len(free)/2:]
		}
		out = append(out, sample{p, places(some(from, carts, r), some(to, carts, r))})
	}
	return out
}

func some(corners []int, many int, r *rand.Rand) []int {
	var out []int
	for _, i := range r.Perm(len(corners))[:many] {
		out = append(out, corners[i])
	}
	return out
}

// columns returns places whose yards are in the first column and whose tips are in the last one,
// in ascending order.
func columns() []sample {
	r := rand.New(rand.NewPCG(4, 2))
	var out []sample
	for rows := 1; rows <= lane.MaxSide; rows++ {
		for columns := 1; columns <= lane.MaxSide; columns++ {
			var first, last []int
			for row := range rows {
				first = append(first, row*columns)
				last = append(last, (row+1)*columns-1)
			}
			for carts := 1; carts <= min(rows, lane.MaxCarts); carts++ {
				for yards := range choices(first, carts) {
					for tips := range choices(last, carts) {
						p := parish(rows, columns)
						out = append(out, sample{p, places(yards, tips)})
						for _, c := range all(p) {
							if r.IntN(6) == 0 && !slices.Contains(yards, c) && !slices.Contains(tips, c) {
								p.Shut = append(p.Shut, c)
							}
						}
						out = append(out, sample{p, places(yards, tips)})
					}
				}
			}
		}
	}
	return out
}

func samples() []sample { return slices.Concat(small(), mixed(2000), columns()) }

// seldom returns some of many samples.
func seldom(l []sample) []sample {
	var out []sample
	for i := 0; i < len(l); i += 7 {
		out = append(out, l[i])
	}
	return out
}

// follows tells whether one corner follows another one in a way, by the definition.
func follows(p lane.Parish, a, b int) bool {
	row, column := a/p.Columns, a%p.Columns
	r, c := b/p.Columns, b%p.Columns
	return row == r && column+1 == c || row+1 == r && column == c
}

// waysOf returns all ways from a corner to another one.
func waysOf(p lane.Parish, from, to int) [][]int {
	free := openCorners(p)
	var out [][]int
	var add func(way []int)
	add = func(way []int) {
		at := way[len(way)-1]
		if at == to {
			out = append(out, slices.Clone(way))
		}
		for _, next := range free {
			if follows(p, at, next) {
				add(append(way, next))
			}
		}
	}
	if slices.Contains(free, from) {
		add(list(from))
	}
	return out
}

type family struct {
	ways  [][]int
	order []int
}

// everyFamily returns all families, apart or not.
func everyFamily(s sample) []family {
	var ways [][][][]int
	for _, yard := range s.x.Yards {
		var l [][][]int
		for _, tip := range s.x.Tips {
			l = append(l, waysOf(s.p, yard, tip))
		}
		ways = append(ways, l)
	}
	var out []family
	var add func(f family)
	add = func(f family) {
		cart := len(f.order)
		if cart == len(ways) {
			out = append(out, family{slices.Clone(f.ways), slices.Clone(f.order)})
			return
		}
		for tip, l := range ways[cart] {
			for _, way := range l {
				if !slices.Contains(f.order, tip) {
					add(family{append(f.ways, way), append(f.order, tip)})
				}
			}
		}
	}
	add(family{})
	return out
}

func (f family) isApart() bool {
	corners := f.corners()
	return len(slices.Compact(slices.Clone(corners))) == len(corners)
}

// corners returns the corners through which the carts go, each as often as one does.
func (f family) corners() []int { return slices.Sorted(slices.Values(slices.Concat(f.ways...))) }

// P4.2 and P4.13, by the definition, of all corners.
func TestAllWays(t *testing.T) {
	for p := range parishes(16) {
		if len(p.Shut) > 3 && len(all(p)) > 9 {
			continue
		}
		free := openCorners(p)
		x := places(free[:1], free[len(free)-1:])
		for _, from := range all(p) {
			for _, to := range all(p) {
				n := must(lane.Ways(p, x, from, to))
				if len(all(p)) <= 9 && len(p.Shut) <= 4 && n != len(waysOf(p, from, to)) {
					t.Errorf("Ways of %v: %d to %d: %d, want %d", p, from, to, n, len(waysOf(p, from, to)))
				}
				if from == to || slices.Contains(p.Shut, from) {
					continue
				}
				for _, next := range all(p) {
					if follows(p, from, next) {
						n -= must(lane.Ways(p, x, next, to))
					}
				}
				if n != 0 {
					t.Errorf("Ways of %v: %d to %d: %d more than those of the next corners", p, from, to, n)
				}
			}
		}
	}
}

// P4.2, P4.3 and P4.7, by the definitions.
func TestAllFamilies(t *testing.T) {
	found := map[int]int{}
	for _, s := range samples() {
		many, signed := 0, 0
		var first family
		for _, f := range everyFamily(s) {
			if !f.isApart() {
				continue
			}
			if many == 0 || slices.Compare(slices.Concat(f.ways...), slices.Concat(first.ways...)) < 0 {
				first = f
			}
			many++
			signed += sign(f.order)
		}
		found[min(many, 2)]++
		if n := must(lane.Count(s.p, s.x)); n != many {
			t.Errorf("Count of %v: %d, want %d", s, n, many)
		}
		if n := must(lane.Signed(s.p, s.x)); n != signed {
			t.Errorf("Signed of %v: %d, want %d", s, n, signed)
		}
		want := api.OK
		if many == 0 {
			want = api.ErrLost
		}
		if l, e := lane.First(s.p, s.x); !sameLists(l, first.ways) || e != want {
			t.Errorf("First of %v: %v %d, want %v %d", s, l, e, first.ways, want)
		}
	}
	for i := range 3 {
		if found[i] < 500 {
			t.Errorf("too few samples: %v", found)
		}
	}
}

// P4.2 and P4.3: the table, and its determinant by all orders.
func TestTables(t *testing.T) {
	for _, s := range samples() {
		table := must(lane.Table(s.p, s.x))
		for cart, yard := range s.x.Yards {
			for i, tip := range s.x.Tips {
				if n := len(waysOf(s.p, yard, tip)); len(table) != len(s.x.Yards) || len(table[cart]) != len(s.x.Tips) || table[cart][i] != n {
					t.Fatalf("Table of %v: %v, but %d ways from %d to %d", s, table, n, yard, tip)
				}
			}
		}
		sum := 0
		for _, order := range orders(all(parish(1, len(table)))) {
			product := sign(order)
			for cart, tip := range order {
				product *= table[cart][tip]
			}
			sum += product
		}
		if n := must(lane.Signed(s.p, s.x)); n != sum {
			t.Errorf("Signed of %v: %d, want %d", s, n, sum)
		}
	}
}

// swap exchanges what is behind the first meeting, by the description: of all of them, that of
// the smallest cart, at the smallest place of its way, with the smallest other cart.
func swap(ways [][]int) [][]int {
	var found [][]int
	for cart, a := range ways {
		for i, corner := range a {
			for other, b := range ways {
				for j, c := range b {
					if cart != other && corner == c {
						found = append(found, list(cart, i, other, j))
					}
				}
			}
		}
	}
	m := slices.MinFunc(found, slices.Compare)
	cart, i, other, j := m[0], m[1], m[2], m[3]
	out := cloned(ways)
	out[cart] = slices.Concat(ways[cart][:i+1], ways[other][j+1:])
	out[other] = slices.Concat(ways[other][:j+1], ways[cart][i+1:])
	return out
}

// P4.4, P4.5 and P4.9: all families of small parishes, and some of others.
func TestAllOrders(t *testing.T) {
	found := map[bool]int{}
	for _, s := range samples() {
		every := everyFamily(s)
		for i := 0; i < len(every); i += 1 + len(every)/40 {
			f := every[i]
			if order, e := lane.Order(s.p, s.x, f.ways); !slices.Equal(order, f.order) || e != api.OK {
				t.Errorf("Order of %v: %v: %v %d, want %v", s, f.ways, order, e, f.order)
			}
			want := api.OK
			if !f.isApart() {
				want = api.ErrClash
			}
			if e := lane.Apart(s.p, s.x, f.ways); e != want {
				t.Errorf("Apart of %v: %v: %d, want %d", s, f.ways, e, want)
			}
			found[f.isApart()]++
			if f.isApart() {
				if l, e := lane.Swap(s.p, s.x, f.ways); len(l) > 0 || e != api.ErrClash {
					t.Errorf("Swap of %v: %v: %v %d", s, f.ways, l, e)
				}
				continue
			}
			checkSwap(t, s, f)
		}
	}
	if found[true] < 5000 || found[false] < 5000 {
		t.Errorf("too few families: %v", found)
	}
}

func checkSwap(t *testing.T, s sample, f family) {
	other := family{ways: must(lane.Swap(s.p, s.x, f.ways))}
	if !sameLists(other.ways, swap(f.ways)) {
		t.Errorf("Swap of %v: %v: %v, want %v", s, f.ways, other.ways, swap(f.ways))
	}
	other.order = must(lane.Order(s.p, s.x, other.ways))
	if sign(other.order) != -sign(f.order) {
		t.Errorf("Swap of %v: %v: %v: the orders are %v and %v", s, f.ways, other.ways, f.order, other.order)
	}
	if !slices.Equal(f.corners(), other.corners()) {
		t.Errorf("Swap of %v: %v: %v: other corners", s, f.ways, other.ways)
	}
	if back := must(lane.Swap(s.p, s.x, other.ways)); !sameLists(back, f.ways) {
		t.Errorf("Swap of %v: %v, twice: %v", s, f.ways, back)
	}
}

// bars tells whether each way goes through one of these corners, by the definition.
func bars(s sample, corners []int) bool {
	for _, yard := range s.x.Yards {
		for _, tip := range s.x.Tips {
			for _, way := range waysOf(s.p, yard, tip) {
				if !slices.ContainsFunc(way, func(c int) bool { return slices.Contains(corners, c) }) {
					return false
				}
			}
		}
	}
	return true
}

// P4.6 and P4.8, by the definitions: no family is apart just if some corners bar the carts.
func TestBars(t *testing.T) {
	found := map[int]int{}
	for _, s := range slices.Concat(mixed(150), seldom(small())) {
		var first []int
		barred := false
		for many := range len(s.x.Yards) + 1 {
			for corners := range choices(all(s.p), many) {
				want := api.ErrProof
				if many < len(s.x.Yards) && bars(s, corners) {
					want = api.OK
				}
				if e := lane.Proves(s.p, s.x, corners); e != want {
					t.Errorf("Proves of %v: %v: %d, want %d", s, corners, e, want)
				}
				if want == api.OK && !barred {
					first, barred = corners, true
				}
			}
		}
		isApart := slices.ContainsFunc(everyFamily(s), family.isApart)
		if barred == isApart {
			t.Errorf("%v: barred %v, a family is apart %v", s, barred, isApart)
		}
		want := api.OK
		if !barred {
			want = api.ErrClash
			found[-1]++
		} else {
			found[len(first)]++
		}
		if l, e := lane.Bar(s.p, s.x); !slices.Equal(l, first) || e != want {
			t.Errorf("Bar of %v: %v %d, want %v %d", s, l, e, first, want)
		}
	}
	for _, i := range list(-1, 0, 1, 2) {
		if found[i] < 5 {
			t.Errorf("too few samples: %v", found)
		}
	}
}

// P4.10
func TestNoCrossing(t *testing.T) {
	many := 0
	for _, s := range columns() {
		for _, f := range everyFamily(s) {
			if f.isApart() && !slices.IsSorted(f.order) {
				t.Errorf("%v: the family %v has the order %v", s, f.ways, f.order)
			}
		}
		n, signed := must(lane.Count(s.p, s.x)), must(lane.Signed(s.p, s.x))
		if n != signed {
			t.Errorf("%v: Count %d, Signed %d", s, n, signed)
		}
		if n > 0 {
			many++
			if order := must(lane.Order(s.p, s.x, must(lane.First(s.p, s.x)))); !slices.IsSorted(order) {
				t.Errorf("%v: the first family has the order %v", s, order)
			}
		}
	}
	if many < 100 {
		t.Errorf("only %d samples with families", many)
	}
}

// turned lets rows and columns change places.
func turned(s sample) sample {
	corner := func(l []int) []int {
		var out []int
		for _, c := range l {
			out = append(out, c%s.p.Columns*s.p.Rows+c/s.p.Columns)
		}
		return out
	}
	return sample{parish(s.p.Columns, s.p.Rows, slices.Sorted(slices.Values(corner(s.p.Shut)))...), places(corner(s.x.Yards), corner(s.x.Tips))}
}

// P4.11
func TestNames(t *testing.T) {
	for _, s := range samples() {
		table, signed, many := must(lane.Table(s.p, s.x)), must(lane.Signed(s.p, s.x)), must(lane.Count(s.p, s.x))
		o := turned(s)
		if l, n, m := must(lane.Table(o.p, o.x)), must(lane.Signed(o.p, o.x)), must(lane.Count(o.p, o.x)); !sameLists(l, table) || n != signed || m != many {
			t.Errorf("%v: %v %d %d; turned: %v %d %d", s, table, signed, many, l, n, m)
		}
		for _, order := range orders(all(parish(1, len(s.x.Yards)))) {
			x := places(nil, s.x.Tips)
			for _, cart := range order {
				x.Yards = append(x.Yards, s.x.Yards[cart])
			}
			if n, m := must(lane.Signed(s.p, x)), must(lane.Count(s.p, x)); n != signed*sign(order) || m != many {
				t.Errorf("%v: %d %d; with the carts %v: %d %d", s, signed, many, order, n, m)
			}
		}
	}
}

// P4.12
func TestMoreShut(t *testing.T) {
	for _, s := range slices.Concat(mixed(100), seldom(small())) {
		many := must(lane.Count(s.p, s.x))
		for _, c := range openCorners(s.p) {
			if slices.Contains(s.x.Yards, c) || slices.Contains(s.x.Tips, c) {
				continue
			}
			p := parish(s.p.Rows, s.p.Columns, slices.Sorted(slices.Values(append(list(c), s.p.Shut...)))...)
			if n := must(lane.Count(p, s.x)); n > many {
				t.Errorf("Count of %v: %d; with %d shut: %d", s, many, c, n)
			}
			for _, from := range all(p) {
				for _, to := range all(p) {
					if a, b := must(lane.Ways(s.p, s.x, from, to)), must(lane.Ways(p, s.x, from, to)); b > a {
						t.Errorf("Ways of %v: %d to %d: %d; with %d shut: %d", s, from, to, a, c, b)
					}
				}
			}
		}
	}
}
