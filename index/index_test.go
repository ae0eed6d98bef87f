package index_test

import (
	"math"
	"slices"
	"testing"

	"breeze/api"
	"breeze/index"
)

func TestIs(t *testing.T) {
	for _, x := range []struct {
		i, many int
		want    bool
	}{
		{0, 1, true}, {1, 1, false}, {2, 3, true}, {3, 3, false}, {-1, 3, false}, {0, 0, false},
		{math.MaxInt, 3, false}, {math.MinInt, 3, false},
	} {
		if is := index.Is(x.i, x.many); is != x.want {
			t.Errorf("Is %d of %d: %v", x.i, x.many, is)
		}
	}
}

// ascending has lists of indices of 3 elements, and their errors.
var ascending = []struct {
	l    []int
	want api.Errno
}{
	{nil, api.OK},
	{[]int{0}, api.OK},
	{[]int{0, 1, 2}, api.OK},
	{[]int{0, 2}, api.OK},
	{[]int{3}, api.ErrNone},
	{[]int{-1}, api.ErrNone},
	{[]int{math.MaxInt}, api.ErrNone},
	{[]int{math.MinInt}, api.ErrNone},
	{[]int{1, 1}, api.ErrOrder},
	{[]int{2, 0}, api.ErrOrder},
	// the first number with an error decides
	{[]int{1, 0, 3}, api.ErrOrder},
	{[]int{1, 3, 0}, api.ErrNone},
	{[]int{1, -1}, api.ErrNone},
}

func TestAscending(t *testing.T) {
	for _, x := range ascending {
		if e := index.Ascending(x.l, 3); e != x.want {
			t.Errorf("%v of 3: %d, want %d", x.l, e, x.want)
		}
	}
}

func TestSetOf(t *testing.T) {
	for _, x := range ascending {
		s, e := index.SetOf(x.l, 3)
		if e != x.want || e != api.OK && s != 0 {
			t.Errorf("%v of 3: %d %d, want %d", x.l, s, e, x.want)
		}
		if e == api.OK && !slices.Equal(s.List(), x.l) {
			t.Errorf("%v of 3: %v", x.l, s.List())
		}
	}
}

func TestSets(t *testing.T) {
	for many := range 6 {
		all := index.Below(many)
		if all.Many() != many || len(all.List()) != many {
			t.Errorf("below %d: %v", many, all.List())
		}
		for s := range all + 1 {
			for i := range many + 1 {
				in := slices.Contains(s.List(), i)
				if s.Has(i) != in || index.One(i).IsWithin(s) != in || !in && (s|index.One(i)).Many() != s.Many()+1 {
					t.Errorf("%v, %d: %v, %v", s.List(), i, s.Has(i), index.One(i).IsWithin(s))
				}
			}
			for other := range all + 1 {
				if c := s.Compare(other); c != slices.Compare(s.List(), other.List()) {
					t.Errorf("%v and %v: %d", s.List(), other.List(), c)
				}
				has := func(i int) bool { return slices.Contains(other.List(), i) }
				if in := s.IsWithin(other); in != (len(slices.DeleteFunc(s.List(), has)) == 0) {
					t.Errorf("%v is within %v: %v", s.List(), other.List(), in)
				}
			}
		}
	}
}
