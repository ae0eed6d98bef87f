package index_test

import (
	"math"
	"testing"

	"breeze/api"
	"breeze/index"
)

func TestIs(t *testing.T) {
	for _, x := range []struct {
		i, many int
		want    bool
	}{
		{0, 1, true}, {1, 1, false}, {2, 3, true}, {3, 3, false}, {-1, 3, false}, {0, 0, false},
		{math.MaxInt, 3, false}, {math.MinInt, 3, false},
	} {
		if is := index.Is(x.i, x.many); is != x.want {
			t.Errorf("Is %d of %d: %v", x.i, x.many, is)
		}
	}
}

func TestAscending(t *testing.T) {
	for _, x := range []struct {
		l    []int
		want api.Errno
	}{
		{nil, api.OK},
		{[]int{0}, api.OK},
		{[]int{0, 1, 2}, api.OK},
		{[]int{0, 2}, api.OK},
		{[]int{3}, api.ErrNone},
		{[]int{-1}, api.ErrNone},
		{[]int{math.MaxInt}, api.ErrNone},
		{[]int{math.MinInt}, api.ErrNone},
		{[]int{1, 1}, api.ErrOrder},
		{[]int{2, 0}, api.ErrOrder},
		// the first number with an error decides
		{[]int{1, 0, 3}, api.ErrOrder},
		{[]int{1, 3, 0}, api.ErrNone},
		{[]int{1, -1}, api.ErrNone},
	} {
		if e := index.Ascending(x.l, 3); e != x.want {
			t.Errorf("%v of 3: %d, want %d", x.l, e, x.want)
		}
	}
}
