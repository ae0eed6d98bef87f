package index_test

import (
	"cmp"
	"math"
	"math/rand/v2"
	"slices"
	"strings"
	"testing"

	"breeze/api"
	"breeze/index"
)

func TestIs(t *testing.T) {
	for _, x := range []struct {
		i, many int
		want    bool
	}{
		{0, 1, true}, {1, 1, false}, {2, 3, true}, {3, 3, false}, {-1, 3, false}, {0, 0, false},
		{math.MaxInt, 3, false}, {math.MinInt, 3, false},
	} {
		if is := index.Is(x.i, x.many); is != x.want {
			t.Errorf("Is %d of %d: %v", x.i, x.many, is)
		}
	}
}

// ascending has lists of indices of 3 elements, and their errors.
var ascending = []struct {
	l    []int
	want api.Errno
}{
	{nil, api.OK},
	{[]int{0}, api.OK},
	{[]int{0, 1, 2}, api.OK},
	{[]int{0, 2}, api.OK},
	{[]int{3}, api.ErrNone},
	{[]int{-1}, api.ErrNone},
	{[]int{math.MaxInt}, api.ErrNone},
	{[]int{math.MinInt}, api.ErrNone},
	{[]int{1, 1}, api.ErrOrder},
	{[]int{2, 0}, api.ErrOrder},
	// the first number with an error decides
	{[]int{1, 0, 3}, api.ErrOrder},
	{[]int{1, 3, 0}, api.ErrNone},
	{[]int{1, -1}, api.ErrNone},
}

func TestAscending(t *testing.T) {
	for _, x := range ascending {
		if e := index.Ascending(x.l, 3); e != x.want {
			t.Errorf("%v of 3: %d, want %d", x.l, e, x.want)
		}
	}
}

func TestSetOf(t *testing.T) {
	for _, x := range ascending {
		s, e := index.SetOf(x.l, 3)
		if e != x.want || e != api.OK && s != 0 {
			t.Errorf("%v of 3: %d %d, want %d", x.l, s, e, x.want)
		}
		if e == api.OK && !slices.Equal(s.List(), x.l) {
			t.Errorf("%v of 3: %v", x.l, s.List())
		}
	}
}

func TestSets(t *testing.T) {
	for many := range 6 {
		all := index.Below(many)
		if all.Many() != many || len(all.List()) != many {
			t.Errorf("below %d: %v", many, all.List())
		}
		for s := range all + 1 {
			for i := range many + 1 {
				in := slices.Contains(s.List(), i)
				if s.Has(i) != in || index.One(i).IsWithin(s) != in || !in && (s|index.One(i)).Many() != s.Many()+1 {
					t.Errorf("%v, %d: %v, %v", s.List(), i, s.Has(i), index.One(i).IsWithin(s))
				}
			}
			for other := range all + 1 {
				if c := s.Compare(other); c != slices.Compare(s.List(), other.List()) {
					t.Errorf("%v and %v: %d", s.List(), other.List(), c)
				}
				has := func(i int) bool { return slices.Contains(other.List(), i) }
				if in := s.IsWithin(other); in != (len(slices.DeleteFunc(s.List(), has)) == 0) {
					t.Errorf("%v is within %v: %v", s.List(), other.List(), in)
				}
			}
		}
	}
}

func TestOf(t *testing.T) {
	for _, x := range []struct{ l, want []int }{
		{nil, nil},
		{[]int{0}, []int{0}},
		{[]int{1, 3, 12}, []int{1, 3, 12}},
		// the order, and what is there twice, make no difference
		{[]int{2, 0, 2}, []int{0, 2}},
	} {
		if s := index.Of(x.l); !slices.Equal(s.List(), x.want) {
			t.Errorf("%v: %v, want %v", x.l, s.List(), x.want)
		}
	}
}

// apart returns all lists of sets of which no two have an index in common, in ascending order.
func apart(sets []index.Set) [][]index.Set {
	out := [][]index.Set{nil}
	for i, s := range sets {
		shares := func(other index.Set) bool { return s&other != 0 }
		for _, l := range apart(slices.DeleteFunc(slices.Clone(sets[i+1:]), shares)) {
			out = append(out, slices.Concat([]index.Set{s}, l))
		}
	}
	return out
}

func TestApart(t *testing.T) {
	// all families of sets of up to 3 indices, and some of sets of 6
	var families [][]index.Set
	for bits := range 1 << 7 {
		var sets []index.Set
		for i := range 7 {
			if bits>>i&1 == 1 {
				sets = append(sets, index.Set(i+1))
			}
		}
		families = append(families, sets)
	}
	r := rand.New(rand.NewPCG(0, 1))
	for range 500 {
		var sets []index.Set
		for range r.IntN(12) {
			sets = append(sets, index.Set(1+r.IntN(63)&r.IntN(63)))
		}
		families = append(families, sets)
	}
	for _, sets := range families {
		slices.SortFunc(sets, index.Set.Compare)
		sets = slices.Compact(sets)
		shorter := func(a, b []index.Set) int { return cmp.Compare(len(a), len(b)) }
		want := slices.MaxFunc(apart(sets), shorter)
		if l := index.Apart(sets); !slices.Equal(l, want) {
			t.Errorf("%v: %v, want %v", sets, l, want)
		}
	}
}

func TestPairs(t *testing.T) {
	for many := range 6 {
		var got, want [][2]int
		for i, k := range index.Pairs(many) {
			got = append(got, [2]int{i, k})
		}
		for n := range many * many {
			if i, k := n/many, n%many; i < k {
				want = append(want, [2]int{i, k})
			}
		}
		if !slices.Equal(got, want) {
			t.Errorf("Pairs of %d: %v, want %v", many, got, want)
		}
	}
	// no more are wanted after one
	for i, k := range index.Pairs(3) {
		if i != 0 || k != 1 {
			t.Errorf("first pair: %d %d", i, k)
		}
		break
	}
}

func TestOrders(t *testing.T) {
	want := 1
	for many := range 8 {
		want *= max(1, many)
		all := slices.Collect(index.Orders(many))
		if len(all) != want {
			t.Errorf("Orders of %d: %d", many, len(all))
		}
		for i, l := range all {
			if len(l) != many || !slices.Equal(index.Of(l).List(), index.Below(many).List()) {
				t.Errorf("Orders of %d: %v", many, l)
			}
			if i > 0 && slices.Compare(all[i-1], l) >= 0 {
				t.Errorf("Orders of %d: %v before %v", many, all[i-1], l)
			}
		}
	}
	// no more are wanted after two, and what is done with the first one does not change the second one
	var came [][]int
	for l := range index.Orders(3) {
		came = append(came, slices.Clone(l))
		l[0], l[1], l[2] = 2, 2, 2
		if len(came) == 2 {
			break
		}
	}
	if !slices.Equal(came[0], []int{0, 1, 2}) || !slices.Equal(came[1], []int{0, 2, 1}) {
		t.Errorf("Orders of 3: %v", came)
	}
}

func TestPicks(t *testing.T) {
	l := []string{"c", "a", "b", "a"}
	for many, want := range [][]string{
		{""}, {"c", "a", "b", "a"}, {"ca", "cb", "ca", "ab", "aa", "ba"}, {"cab", "caa", "cba", "aba"}, {"caba"}, {}, {},
	} {
		var got []string
		for _, picked := range index.Picks(l, many) {
			got = append(got, strings.Join(picked, ""))
			// what is done with one list does not change the next one
			for i := range picked {
				picked[i] = "x"
			}
		}
		if !slices.Equal(got, want) {
			t.Errorf("Picks of %v, %d: %v, want %v", l, many, got, want)
		}
	}
	if !slices.Equal(l, []string{"c", "a", "b", "a"}) {
		t.Errorf("the list was changed: %v", l)
	}
	for many := range 8 {
		for size := range many + 2 {
			picks := index.Picks(index.Below(many).List(), size)
			var want [][]int
			for s := range index.Below(many) + 1 {
				if s.Many() == size {
					want = append(want, s.List())
				}
			}
			slices.SortFunc(want, slices.Compare)
			if !slices.EqualFunc(picks, want, slices.Equal[[]int]) {
				t.Errorf("Picks of %d of %d: %v, want %v", size, many, picks, want)
			}
		}
	}
}
