package burn_test

import (
	"math"
	"slices"
	"strconv"
	"strings"
	"testing"

	"breeze/api"
	"breeze/burn"
)

func list(l ...int) []int { return l }

// must is a result that may not be refused.
func must[T any](result T, e api.Errno) T {
	if e != api.OK {
		panic(e)
	}
	return result
}

// numbers reads numbers with blanks between them.
func numbers(text string) []int {
	var l []int
	for _, word := range strings.Fields(text) {
		n, err := strconv.Atoi(word)
		if err != nil {
			panic(err)
		}
		l = append(l, n)
	}
	return l
}

// lists reads lists with commas between them.
func lists(text string) [][]int {
	var out [][]int
	for _, part := range strings.Split(text, ",") {
		out = append(out, numbers(part))
	}
	return out
}

// heap reads the ways of a heap as the chapter's examples write them.
func heap(places int, text string) burn.Heap {
	h := burn.Heap{Places: places}
	for _, part := range strings.Split(text, ",") {
		if l := numbers(part); len(l) > 0 {
			h.Ways = append(h.Ways, [2]int{l[0], l[1]})
		}
	}
	return h
}

// row has a way from each of its places but the last one to the next one.
func row(places int) burn.Heap {
	h := burn.Heap{Places: places}
	for place := 1; place < places; place++ {
		h.Ways = append(h.Ways, [2]int{place - 1, place})
	}
	return h
}

// ring is a row with a way from its last place to its first one.
func ring(places int) burn.Heap {
	h := row(places)
	h.Ways = append(h.Ways, [2]int{0, places - 1})
	return h
}

// with is a heap with one way more.
func with(h burn.Heap, way ...int) burn.Heap {
	h.Ways = append(slices.Clip(h.Ways), [2]int{way[0], way[1]})
	return h
}

// The heaps O and S of the chapter's examples; R5 and R9 are rows.

func heapO() burn.Heap { return heap(4, "0 1, 1 2, 2 3, 0 3") }

func heapS() burn.Heap { return heap(5, "0 1, 0 2, 0 3, 0 4") }

// star has as many places as there can be, all of them next to the last one.
func star() burn.Heap { return heap(9, "0 8, 1 8, 2 8, 3 8, 4 8, 5 8, 6 8, 7 8") }

// square has as many places and ways as there can be: three rows of three places.
func square() burn.Heap { return heap(9, "0 1, 1 2, 3 4, 4 5, 6 7, 7 8, 0 3, 1 4, 2 5, 3 6, 4 7, 5 8") }

// legs has three legs of two places at place 0.
func legs() burn.Heap { return heap(7, "0 1, 1 2, 0 3, 3 4, 0 5, 5 6") }

// tangle is a tree with its places and ways in no order.
func tangle() burn.Heap { return heap(9, "2 7, 0 7, 4 7, 1 4, 4 8, 3 8, 5 8, 3 6") }

// full has a way between any two of its places.
func full() burn.Heap { return heap(4, "0 1, 0 2, 0 3, 1 2, 1 3, 2 3") }

func valid() []burn.Heap {
	return []burn.Heap{row(1), row(2), row(5), heapO(), heapS(), row(9), star(), ring(9), square(), legs(), tangle(), full()}
}

// P13.1

var checks = []struct {
	name string
	h    burn.Heap
	want api.Errno
}{
	{"one place", heap(1, ""), api.OK},
	{"one place, an empty list", burn.Heap{Places: 1, Ways: [][2]int{}}, api.OK},
	{"two places", heap(2, "0 1"), api.OK},
	{"R5", row(5), api.OK},
	{"O", heapO(), api.OK},
	{"S", heapS(), api.OK},
	{"nine places", row(9), api.OK},
	{"nine places, twelve ways", square(), api.OK},
	{"a tree in no order", tangle(), api.OK},
	{"no places", heap(0, ""), api.ErrRange},
	{"no places, thirteen ways", burn.Heap{Ways: make([][2]int, 13)}, api.ErrRange},
	{"ten places", row(10), api.ErrRange},
	{"less than no places", heap(-1, ""), api.ErrRange},
	{"as many places as can be", heap(math.MaxInt, "0 1"), api.ErrRange},
	{"as few places as can be", heap(math.MinInt, "0 1"), api.ErrRange},
	{"thirteen ways", with(square(), 0, 4), api.ErrMany},
	{"thirteen ways, one of them wrong", with(square(), 9, 9), api.ErrMany},
	{"thirteen equal ways", burn.Heap{Places: 2, Ways: slices.Repeat([][2]int{{0, 1}}, 13)}, api.ErrMany},
	{"a thousand ways", burn.Heap{Places: 9, Ways: make([][2]int, 1000)}, api.ErrMany},
	{"a way behind the last place", heap(2, "0 2"), api.ErrNone},
	{"a way from behind the last place", heap(2, "2 0"), api.ErrNone},
	{"a way before the first place", heap(2, "-1 1"), api.ErrNone},
	{"a way to before the first place", heap(2, "1 -1"), api.ErrNone},
	{"a way as far as can be", burn.Heap{Places: 9, Ways: [][2]int{{0, math.MaxInt}}}, api.ErrNone},
	{"a way from as far as can be", burn.Heap{Places: 9, Ways: [][2]int{{math.MinInt, 0}}}, api.ErrNone},
	{"two equal places that are none", heap(2, "2 2"), api.ErrNone},
	{"a way turned round", heap(2, "1 0"), api.ErrOrder},
	{"a way to the same place", heap(2, "0 0"), api.ErrOrder},
	{"a way, and turned round", heap(2, "0 1, 1 0"), api.ErrOrder},
	{"a wrong way twice", heap(2, "1 1, 1 1"), api.ErrOrder},
	{"a way twice", heap(2, "0 1, 0 1"), api.ErrTwice},
	{"a way twice, with another one between", heap(3, "0 1, 1 2, 0 1"), api.ErrTwice},
	{"the last of twelve ways twice", heap(9, "0 1, 1 2, 3 4, 4 5, 6 7, 7 8, 0 3, 1 4, 2 5, 3 6, 4 7, 0 1"), api.ErrTwice},
	{"two places without ways", heap(2, ""), api.ErrShape},
	{"nine places without ways", heap(9, ""), api.ErrShape},
	{"a place that is left out", heap(3, "0 1"), api.ErrShape},
	{"the first place is left out", heap(3, "1 2"), api.ErrShape},
	{"the last place is left out", heap(9, "0 1, 1 2, 3 4, 4 5, 6 7, 0 3, 1 4, 2 5, 3 6, 4 7"), api.ErrShape},
	{"two parts", heap(4, "0 1, 2 3"), api.ErrShape},
	{"two parts with enough ways", heap(6, "0 1, 0 2, 1 2, 3 4, 3 5, 4 5"), api.ErrShape},
	{"a row that is cut", heap(9, "0 1, 1 2, 2 3, 3 4, 5 6, 6 7, 7 8"), api.ErrShape},
	// the first way with an error decides
	{"a turned way before one to nowhere", heap(3, "1 0, 0 3"), api.ErrOrder},
	{"a way to nowhere before a turned one", heap(3, "0 3, 1 0"), api.ErrNone},
	{"a way twice before one to nowhere", heap(3, "0 1, 0 1, 0 3"), api.ErrTwice},
	{"a way twice before a turned one", heap(3, "0 1, 0 1, 1 0"), api.ErrTwice},
	{"a turned way before one twice", heap(3, "0 1, 1 0, 0 1"), api.ErrOrder},
	{"a way to nowhere twice", heap(3, "0 3, 0 3"), api.ErrNone},
	{"a wrong way in two parts", heap(4, "0 1, 3 2"), api.ErrOrder},
	{"a way twice in two parts", heap(4, "0 1, 0 1"), api.ErrTwice},
}

func TestCheck(t *testing.T) {
	for _, c := range checks {
		if e := burn.Check(c.h); e != c.want {
			t.Errorf("%s: %d, want %d", c.name, e, c.want)
		}
	}
}

// result is what a function returns: a number, or lists, and an error.
type result struct {
	n     int
	lists [][]int
	e     api.Errno
}

func (r result) same(other result) bool {
	return r.n == other.n && slices.EqualFunc(r.lists, other.lists, slices.Equal[[]int]) && r.e == other.e
}

// isZero tells whether there is nothing but an error.
func (r result) isZero() bool { return r.n == 0 && len(r.lists) == 0 }

func one(n int, e api.Errno) result           { return result{n: n, e: e} }
func several(l [][]int, e api.Errno) result   { return result{lists: l, e: e} }
func nothing(e api.Errno) result              { return result{e: e} }
func asList(text string, e api.Errno) result  { return single(numbers(text), e) }
func asLists(text string, e api.Errno) result { return several(lists(text), e) }

// single is a list, unless it is empty.
func single(l []int, e api.Errno) result {
	if len(l) == 0 {
		return nothing(e)
	}
	return several([][]int{l}, e)
}

// all returns what each function of a heap says.
func all(h burn.Heap, a, b int, l []int) map[string]result {
	return map[string]result{
		"Check":  nothing(burn.Check(h)),
		"Far":    one(burn.Far(h, a, b)),
		"Near":   single(burn.Near(h, a, b)),
		"Burnt":  several(burn.Burnt(h, l)),
		"Enough": nothing(burn.Enough(h, l)),
		"Days":   one(burn.Days(h)),
		"Fewest": single(burn.Fewest(h)),
		"Count":  one(burn.Count(h)),
		"Apart":  single(burn.Apart(h, a)),
		"Proves": nothing(burn.Proves(h, a, l)),
	}
}

// someNumbers are places of some heaps, days, and numbers that are neither.
var someNumbers = list(0, 1, 2, 4, 8, 9, 10, -1, 100, 101, math.MaxInt, math.MinInt)

// someLists are places and fires of some heaps, and lists that are neither.
var someLists = [][]int{
	nil, {}, {0}, {0, 1}, {1, 0}, {0, 0}, {0, 3, 6}, {0, 2, 4}, {2, 6, 8}, {-1}, {9}, {5, 9}, {0, 1, 2, 3, 4, 5, 6, 7, 8}, {0, 1, 2, 3, 4, 5, 6, 7, 8, 9},
	make([]int, 9), make([]int, 10), make([]int, 1000), {math.MaxInt}, {math.MinInt, math.MaxInt},
}

// All functions of a heap return Check's error before any of their own.
func TestCheckComesFirst(t *testing.T) {
	for _, c := range checks {
		if c.want == api.OK {
			continue
		}
		for i, a := range someNumbers {
			for k, l := range someLists {
				for name, r := range all(c.h, a, someNumbers[(i+k)%len(someNumbers)], l) {
					if !r.isZero() || r.e != c.want {
						t.Errorf("%s of %s: %v, want %d", name, c.name, r, c.want)
					}
				}
			}
		}
	}
}

// P13.2

func TestFar(t *testing.T) {
	for _, x := range []struct {
		h        burn.Heap
		from, to int
		want     result
	}{
		{row(5), 0, 4, one(4, api.OK)},
		{row(5), 4, 0, one(4, api.OK)},
		{row(5), 1, 3, one(2, api.OK)},
		{row(5), 2, 2, one(0, api.OK)},
		{heapO(), 0, 3, one(1, api.OK)},
		{heapO(), 0, 2, one(2, api.OK)},
		{heapO(), 3, 1, one(2, api.OK)},
		{heapS(), 1, 4, one(2, api.OK)},
		{heapS(), 4, 0, one(1, api.OK)},
		{row(1), 0, 0, one(0, api.OK)},
		{row(9), 0, 8, one(8, api.OK)},
		{ring(9), 0, 8, one(1, api.OK)},
		{ring(9), 2, 7, one(4, api.OK)},
		{square(), 2, 6, one(4, api.OK)},
		{square(), 4, 8, one(2, api.OK)},
		{tangle(), 2, 6, one(5, api.OK)},
		{tangle(), 1, 5, one(3, api.OK)},
		{full(), 3, 0, one(1, api.OK)},
		{row(5), 5, 0, nothing(api.ErrNone)},
		{row(5), 0, 5, nothing(api.ErrNone)},
		{row(5), -1, 0, nothing(api.ErrNone)},
		{row(5), 0, -1, nothing(api.ErrNone)},
		{row(5), 5, 5, nothing(api.ErrNone)},
		{row(5), 0, math.MaxInt, nothing(api.ErrNone)},
		{row(5), math.MinInt, 0, nothing(api.ErrNone)},
		{row(1), 0, 1, nothing(api.ErrNone)},
	} {
		if r := one(burn.Far(x.h, x.from, x.to)); !r.same(x.want) {
			t.Errorf("Far of %v: %d to %d: %v, want %v", x.h, x.from, x.to, r, x.want)
		}
	}
}

func TestNear(t *testing.T) {
	for _, x := range []struct {
		h           burn.Heap
		place, most int
		want        result
	}{
		{row(5), 1, 1, asList("0 1 2", api.OK)},
		{row(5), 4, 0, asList("4", api.OK)},
		{row(5), 0, 9, asList("0 1 2 3 4", api.OK)},
		{row(5), 4, 3, asList("1 2 3 4", api.OK)},
		{row(5), 4, 4, asList("0 1 2 3 4", api.OK)},
		{row(5), 2, 1, asList("1 2 3", api.OK)},
		{row(5), 0, math.MaxInt, asList("0 1 2 3 4", api.OK)},
		{heapO(), 3, 1, asList("0 2 3", api.OK)},
		{heapS(), 2, 1, asList("0 2", api.OK)},
		{heapS(), 2, 2, asList("0 1 2 3 4", api.OK)},
		{row(1), 0, 0, asList("0", api.OK)},
		{row(1), 0, 1, asList("0", api.OK)},
		{row(9), 0, 7, asList("0 1 2 3 4 5 6 7", api.OK)},
		{row(9), 0, 8, asList("0 1 2 3 4 5 6 7 8", api.OK)},
		{tangle(), 6, 2, asList("3 6 8", api.OK)},
		{tangle(), 6, 3, asList("3 4 5 6 8", api.OK)},
		{tangle(), 7, 1, asList("0 2 4 7", api.OK)},
		{row(5), 0, -1, nothing(api.ErrRange)},
		{row(5), 4, math.MinInt, nothing(api.ErrRange)},
		{row(5), 5, 0, nothing(api.ErrNone)},
		{row(5), -1, 0, nothing(api.ErrNone)},
		{row(5), math.MaxInt, 0, nothing(api.ErrNone)},
		// a place that is none comes before a number that is too small
		{row(5), 5, -1, nothing(api.ErrNone)},
		{row(5), math.MinInt, -1, nothing(api.ErrNone)},
	} {
		if r := single(burn.Near(x.h, x.place, x.most)); !r.same(x.want) {
			t.Errorf("Near of %v: %d, %d: %v, want %v", x.h, x.place, x.most, r, x.want)
		}
	}
}

// P13.3

// nine and ten are so many fires at one place.
const nine, ten = "0 0 0 0 0 0 0 0 0", "0 0 0 0 0 0 0 0 0 0"

func TestBurnt(t *testing.T) {
	for _, x := range []struct {
		h      burn.Heap
		fires  string
		want   string
		enough api.Errno
	}{
		{row(5), "0 2 4", "0, 0 1 2, 0 1 2 3 4", api.OK},
		{heapS(), "1 2", "1, 0 1 2", api.ErrProof},
		{row(5), "2 2", "2, 1 2 3", api.ErrProof},
		{row(5), "2 2 2", "2, 1 2 3, 0 1 2 3 4", api.OK},
		{row(5), "4 0", "4, 0 3 4", api.ErrProof},
		{row(5), "2 4 4", "2, 1 2 3 4, 0 1 2 3 4", api.OK},
		{row(5), "0", "0", api.ErrProof},
		{row(5), "0 1 2 3 4", "0, 0 1, 0 1 2, 0 1 2 3, 0 1 2 3 4", api.OK},
		{row(5), "0 0 0 0", "0, 0 1, 0 1 2, 0 1 2 3", api.ErrProof},
		{row(5), "0 0 0 0 0", "0, 0 1, 0 1 2, 0 1 2 3, 0 1 2 3 4", api.OK},
		// on the days after all places burn they still do
		{row(2), "1 0 1", "1, 0 1, 0 1", api.OK},
		{row(1), "0", "0", api.OK},
		{row(1), nine, "0, 0, 0, 0, 0, 0, 0, 0, 0", api.OK},
		{heapS(), "0 3", "0, 0 1 2 3 4", api.OK},
		{heapS(), "1 1 1", "1, 0 1, 0 1 2 3 4", api.OK},
		{row(9), "2 6 8", "2, 1 2 3 6, 0 1 2 3 4 5 6 7 8", api.OK},
		{row(9), "2 6 7", "2, 1 2 3 6, 0 1 2 3 4 5 6 7", api.ErrProof},
		{row(9), nine, "0, 0 1, 0 1 2, 0 1 2 3, 0 1 2 3 4, 0 1 2 3 4 5, 0 1 2 3 4 5 6, 0 1 2 3 4 5 6 7, 0 1 2 3 4 5 6 7 8", api.OK},
		{tangle(), "3 7 1", "3, 3 6 7 8, 0 1 2 3 4 5 6 7 8", api.OK},
		{tangle(), "3 7 2", "3, 3 6 7 8, 0 2 3 4 5 6 7 8", api.ErrProof},
	} {
		if r := several(burn.Burnt(x.h, numbers(x.fires))); !r.same(asLists(x.want, api.OK)) {
			t.Errorf("Burnt of %v: %s: %v, want %s", x.h, x.fires, r, x.want)
		}
		if e := burn.Enough(x.h, numbers(x.fires)); e != x.enough {
			t.Errorf("Enough of %v: %s: %d, want %d", x.h, x.fires, e, x.enough)
		}
	}
}

func TestNoFires(t *testing.T) {
	for _, x := range []struct {
		h     burn.Heap
		fires []int
		want  api.Errno
	}{
		{row(5), nil, api.ErrEmpty},
		{row(5), []int{}, api.ErrEmpty},
		{row(5), list(5), api.ErrNone},
		{row(5), list(-1), api.ErrNone},
		{row(5), list(0, 2, 5), api.ErrNone},
		{row(5), list(5, 2, 0), api.ErrNone},
		{row(5), list(0, math.MaxInt, 2), api.ErrNone},
		{row(5), list(math.MinInt), api.ErrNone},
		{row(5), numbers(nine + " 5"), api.ErrMany},
		{row(5), numbers("5 " + nine), api.ErrMany},
		{row(5), numbers(ten), api.ErrMany},
		{row(5), make([]int, 1000), api.ErrMany},
		{row(1), numbers(ten), api.ErrMany},
		{row(1), list(1), api.ErrNone},
		{row(9), list(9), api.ErrNone},
		{row(9), numbers("0 1 2 3 4 5 6 7 9"), api.ErrNone},
	} {
		if r := several(burn.Burnt(x.h, x.fires)); !r.same(nothing(x.want)) {
			t.Errorf("Burnt of %v: %v: %v, want %d", x.h, x.fires, r, x.want)
		}
		if e := burn.Enough(x.h, x.fires); e != x.want {
			t.Errorf("Enough of %v: %v: %d, want %d", x.h, x.fires, e, x.want)
		}
	}
}

// P13.4

func TestFewest(t *testing.T) {
	for _, x := range []struct {
		h      burn.Heap
		days   int
		fewest []int
		count  int
	}{
		{row(5), 3, list(0, 2, 4), 73},
		{heapO(), 2, list(0, 2), 4},
		{heapS(), 2, list(0, 0), 5},
		{row(1), 1, list(0), 1},
		{row(2), 2, list(0, 0), 4},
		{row(9), 3, list(2, 6, 8), 6},
		{star(), 2, list(8, 0), 9},
		{ring(9), 3, list(0, 4, 6), 18},
		{square(), 3, list(0, 4, 8), 181},
		{legs(), 3, list(0, 0, 0), 61},
		{tangle(), 3, list(3, 7, 1), 40},
		{full(), 2, list(0, 0), 16},
	} {
		if n, e := burn.Days(x.h); n != x.days || e != api.OK {
			t.Errorf("Days of %v: %d %d, want %d", x.h, n, e, x.days)
		}
		if l, e := burn.Fewest(x.h); !slices.Equal(l, x.fewest) || e != api.OK {
			t.Errorf("Fewest of %v: %v %d, want %v", x.h, l, e, x.fewest)
		}
		if n, e := burn.Count(x.h); n != x.count || e != api.OK {
			t.Errorf("Count of %v: %d %d, want %d", x.h, n, e, x.count)
		}
	}
}

// P13.5

func TestApart(t *testing.T) {
	for _, x := range []struct {
		h burn.Heap
		// apart are lists for one day, for two and so on; none bar more days
		apart string
	}{
		{row(1), ""},
		{row(2), "0 1"},
		{row(5), "0 1"},
		{row(6), "0 1"},
		{row(7), "0 1, 0 3 6"},
		{row(9), "0 1, 0 3 6"},
		{heapO(), "0 1"},
		{heapS(), "0 1"},
		{ring(8), "0 1"},
		{ring(9), "0 1, 0 3 6"},
		{star(), "0 1"},
		{square(), "0 1"},
		{legs(), "0 1, 1 4 6"},
		{tangle(), "0 1, 0 1 3"},
		{full(), "0 1"},
	} {
		apart := lists(x.apart)
		for days := 1; days <= burn.MaxPlaces; days++ {
			want := nothing(api.ErrLost)
			if days <= len(apart) && len(apart[days-1]) > 0 {
				want = single(apart[days-1], api.OK)
			}
			if r := single(burn.Apart(x.h, days)); !r.same(want) {
				t.Errorf("Apart of %v: %d: %v, want %v", x.h, days, r, want)
			}
		}
		for _, days := range list(0, -1, 10, 11, 100, math.MaxInt, math.MinInt) {
			if r := single(burn.Apart(x.h, days)); !r.same(nothing(api.ErrRange)) {
				t.Errorf("Apart of %v: %d: %v", x.h, days, r)
			}
		}
	}
}

func TestProves(t *testing.T) {
	for _, x := range []struct {
		h      burn.Heap
		days   int
		places []int
		want   api.Errno
	}{
		{row(9), 2, list(0, 3, 6), api.OK},
		{row(9), 2, list(0, 3), api.ErrProof},
		{row(9), 2, list(0, 2, 6), api.ErrProof},
		{row(9), 2, list(0, 4, 8), api.OK},
		{row(9), 2, list(2, 5, 8), api.OK},
		{row(9), 2, list(0, 3, 5), api.ErrProof},
		{row(9), 2, list(0, 3, 6, 8), api.ErrProof},
		{row(9), 2, nil, api.ErrProof},
		{row(9), 2, list(4), api.ErrProof},
		{row(9), 3, list(0, 3, 6), api.ErrProof},
		{row(9), 3, list(0, 5), api.ErrProof},
		{row(9), 1, list(0, 3, 6), api.OK},
		{row(9), 1, list(0, 1), api.OK},
		{row(9), 1, list(7, 8), api.OK},
		{row(9), 1, list(4), api.ErrProof},
		{row(9), 1, []int{}, api.ErrProof},
		{row(9), 1, list(0, 1, 2, 3, 4, 5, 6, 7, 8), api.OK},
		{row(9), 8, list(0, 1, 2, 3, 4, 5, 6, 7, 8), api.ErrProof},
		{row(9), 9, list(0, 1, 2, 3, 4, 5, 6, 7, 8), api.ErrProof},
		{ring(9), 2, list(0, 3, 6), api.OK},
		{ring(9), 2, list(0, 3, 7), api.ErrProof},
		{legs(), 2, list(2, 4, 6), api.OK},
		{legs(), 2, list(1, 4, 6), api.OK},
		{legs(), 2, list(1, 3, 6), api.ErrProof},
		{row(1), 1, list(0), api.ErrProof},
		{row(9), 10, list(0), api.ErrRange},
		{row(9), 0, list(0, 3, 6), api.ErrRange},
		{row(9), -1, list(0, 3, 6), api.ErrRange},
		{row(9), math.MaxInt, list(0, 3, 6), api.ErrRange},
		{row(9), math.MinInt, nil, api.ErrRange},
		// the days come before the places
		{row(9), 0, list(9), api.ErrRange},
		{row(9), 10, list(3, 0), api.ErrRange},
		// the first place with an error decides
		{row(9), 2, list(0, 3, 9), api.ErrNone},
		{row(9), 2, list(-1, 3, 6), api.ErrNone},
		{row(9), 2, list(3, -1), api.ErrNone},
		{row(9), 2, list(0, 6, 3), api.ErrOrder},
		{row(9), 2, list(0, 3, 3), api.ErrOrder},
		{row(9), 2, list(3, 0, 9), api.ErrOrder},
		{row(9), 2, list(3, 9, 0), api.ErrNone},
		{row(9), 2, list(0, 0), api.ErrOrder},
		{row(9), 2, list(math.MaxInt), api.ErrNone},
		{row(9), 2, list(math.MinInt), api.ErrNone},
		{row(9), 2, list(0, 1, 2, 3, 4, 5, 6, 7, 8, 9), api.ErrNone},
		{row(9), 2, make([]int, 1000), api.ErrOrder},
		{row(5), 1, list(0, 5), api.ErrNone},
	} {
		if e := burn.Proves(x.h, x.days, x.places); e != x.want {
			t.Errorf("Proves of %v: %d by %v: %d, want %d", x.h, x.days, x.places, e, x.want)
		}
	}
}

// P13.6

func TestRoot(t *testing.T) {
	for places, want := range map[int]int{
		1: 1, 2: 2, 3: 2, 4: 2, 5: 3, 9: 3, 10: 4, 16: 4, 17: 5, 25: 5, 26: 6, 36: 6, 37: 7, 49: 7, 50: 8, 64: 8, 65: 9, 81: 9, 82: 10, 99: 10, 100: 10,
	} {
		if n, e := burn.Root(places); n != want || e != api.OK {
			t.Errorf("Root of %d: %d %d, want %d", places, n, e, want)
		}
	}
}

func TestRow(t *testing.T) {
	for places, want := range map[int]string{
		1: "0", 2: "1 1", 3: "1 2", 4: "1 3", 5: "2 4 4", 6: "2 5 5", 7: "2 6 6", 8: "2 6 7", 9: "2 6 8", 10: "3 9 9 9", 11: "3 9 10 10", 12: "3 9 11 11", 13: "3 9 12 12",
		15: "3 9 13 14", 16: "3 9 13 15", 17: "4 12 16 16 16", 100: "9 27 43 57 69 79 87 93 97 99", 82: "9 27 43 57 69 79 81 81 81 81",
	} {
		if r := single(burn.Row(places)); !r.same(asList(want, api.OK)) {
			t.Errorf("Row of %d: %v, want %s", places, r, want)
		}
	}
}

func TestNoRow(t *testing.T) {
	for _, places := range list(0, -1, 101, 102, 1000, math.MaxInt, math.MinInt) {
		if r := one(burn.Root(places)); !r.same(nothing(api.ErrRange)) {
			t.Errorf("Root of %d: %v", places, r)
		}
		if r := single(burn.Row(places)); !r.same(nothing(api.ErrRange)) {
			t.Errorf("Row of %d: %v", places, r)
		}
	}
}

// P1: each function ends, does not panic, and returns the same for the same arguments.
func TestAllArguments(t *testing.T) {
	heaps := valid()
	for _, c := range checks {
		heaps = append(heaps, c.h)
	}
	for n, h := range heaps {
		for i, a := range someNumbers {
			for k, l := range someLists {
				b := someNumbers[(i+k+n)%len(someNumbers)]
				x, y := all(h, a, b, l), all(h, a, b, l)
				for name := range x {
					if !x[name].same(y[name]) || x[name].e != api.OK && !x[name].isZero() {
						t.Errorf("%s of %v, %d, %d, %v: %v, then %v", name, h, a, b, l, x[name], y[name])
					}
				}
			}
		}
	}
	for _, places := range someNumbers {
		if a, b := one(burn.Root(places)), one(burn.Root(places)); !a.same(b) {
			t.Errorf("Root of %d: %v, then %v", places, a, b)
		}
		if a, b := single(burn.Row(places)), single(burn.Row(places)); !a.same(b) {
			t.Errorf("Row of %d: %v, then %v", places, a, b)
		}
	}
}

// R4: what a caller does with arguments and results changes no results, and arguments stay as they are.
func TestMemory(t *testing.T) {
	found := map[string]int{}
	// results has a number for a and b that all functions take, and fires that are places that bar two days.
	results := func(h burn.Heap, l []int) map[string]result {
		out := all(h, 2, 1, l)
		out["Row"] = single(burn.Row(h.Places))
		return out
	}
	for _, h := range []burn.Heap{row(9), legs(), tangle(), ring(9)} {
		wantL := must(burn.Apart(h, 2))
		for round := range 2 {
			// behind the arguments, other things lie in the memory
			l := append(slices.Clip(wantL), 77)[:len(wantL)]
			a := burn.Heap{Places: h.Places, Ways: append(slices.Clip(h.Ways), [2]int{77, 77})[:len(h.Ways)]}
			got := results(a, l)
			if !slices.Equal(l[:len(l)+1], append(slices.Clip(wantL), 77)) || !slices.Equal(a.Ways[:len(a.Ways)+1], append(slices.Clip(h.Ways), [2]int{77, 77})) {
				t.Errorf("an argument was changed: %v, %v", a, l)
			}
			for i := range l {
				l[i] = 77
			}
			for i := range a.Ways {
				a.Ways[i] = [2]int{77, 77}
			}
			for name, want := range results(h, wantL) {
				r := got[name]
				if !r.same(want) {
					t.Errorf("%s of %v, call %d: %v, want %v", name, h, round+1, r, want)
				}
				// each list of a result is changed before the next one is looked at
				for i := range r.lists {
					part := r.lists[i]
					if !slices.Equal(part, want.lists[i]) {
						t.Errorf("%s of %v: list %d shares memory with another one", name, h, i)
					}
					for k := range part[:cap(part)] {
						part[:cap(part)][k] = 77
						found[name]++
					}
				}
			}
		}
	}
	for _, name := range []string{"Near", "Burnt", "Fewest", "Apart", "Row"} {
		if found[name] == 0 {
			t.Errorf("not all lists came: %v", found)
		}
	}
}
