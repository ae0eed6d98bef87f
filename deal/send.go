package deal

import (
	"slices"

	"breeze/api"
)

func sum(l []int) int {
	sum := 0
	for _, n := range l {
		sum += n
	}
	return sum
}

// areFrom tells whether all numbers are from low to high.
func areFrom(low, high int, l []int) bool {
	isOutside := func(n int) bool { return n < low || n > high }
	return !slices.ContainsFunc(l, isOutside)
}

// haveShape tells whether there is a number for each heap, and one for each buyer.
func haveShape(costs [][]int, heaps, buyers []int) bool {
	return len(heaps) == len(costs) && len(buyers) == len(costs[0])
}

// cut makes a list for each heap of numbers that are written one after the other. The third index
// ends the memory of each list where the next one begins, so that what is appended to the one is
// not written into the other.
func cut(numbers []int, buyers int) [][]int {
	var lists [][]int
	for begin := 0; begin < len(numbers); begin += buyers {
		end := begin + buyers
		lists = append(lists, numbers[begin:end:end])
	}
	return lists
}

// none sends nothing from any heap to any buyer.
func none(l Loads) [][]int {
	return cut(make([]int, len(l.Has)*len(l.Wants)), len(l.Wants))
}

// valid returns the error of a deal for these loads.
func valid(l Loads, deal [][]int) api.Errno {
	hasOtherLength := func(goes []int) bool { return len(goes) != len(l.Wants) }
	if len(deal) != len(l.Has) || slices.ContainsFunc(deal, hasOtherLength) {
		return api.ErrShape
	}
	hasWrongNumber := func(goes []int) bool { return !areFrom(0, MaxLoads, goes) }
	if slices.ContainsFunc(deal, hasWrongNumber) {
		return api.ErrRange
	}
	if !sends(deal, l) {
		return api.ErrSum
	}
	return api.OK
}

// sends tells whether as much goes from each heap as it has, and to each buyer as he wants.
func sends(deal [][]int, l Loads) bool {
	came := make([]int, len(l.Wants))
	for i, goes := range deal {
		if sum(goes) != l.Has[i] {
			return false
		}
		for j, loads := range goes {
			came[j] += loads
		}
	}
	return slices.Equal(came, l.Wants)
}

// times adds up the products of the numbers of two lists.
func times(a, b []int) int {
	sum := 0
	for i := range a {
		sum += a[i] * b[i]
	}
	return sum
}

func cost(costs, deal [][]int) int {
	sum := 0
	for i := range deal {
		sum += times(costs[i], deal[i])
	}
	return sum
}

func worth(l Loads, p Prices) int { return times(p.Heaps, l.Has) + times(p.Buyers, l.Wants) }

// every returns all deals in ascending order. After a deal comes the one that is the same up to a
// place as far behind as can be, has one load more there, and is the smallest one that begins so.
func every(l Loads) [][][]int {
	buyers := len(l.Wants)
	numbers := make([]int, len(l.Has)*buyers)
	finish(l, numbers, 0)
	var deals [][][]int
search:
	for {
		deals = append(deals, cut(slices.Clone(numbers), buyers))
		for place := len(numbers) - 1; place >= 0; place-- {
			if canGrow(numbers, place, buyers) {
				numbers[place]++
				finish(l, numbers, place+1)
				continue search
			}
		}
		return deals
	}
}

// finish writes the smallest numbers with which the first ones are a deal, from a place on.
func finish(l Loads, numbers []int, from int) {
	has, wants := slices.Clone(l.Has), slices.Clone(l.Wants)
	for place := range numbers {
		i, j := place/len(wants), place%len(wants)
		if place >= from {
			// the buyers behind this one take no more than they want
			numbers[place] = max(0, has[i]-sum(wants[j+1:]))
		}
		has[i] -= numbers[place]
		wants[j] -= numbers[place]
	}
}

// canGrow tells whether there is a deal that is the same before a place and has a greater number
// there: a load that goes from this heap to a buyer behind this one can change its place with one
// that goes to this buyer from a heap behind this one, if there are such loads.
func canGrow(numbers []int, place, buyers int) bool {
	end := place - place%buyers + buyers
	if sum(numbers[place+1:end]) == 0 {
		return false
	}
	for below := place + buyers; below < len(numbers); below += buyers {
		if numbers[below] > 0 {
			return true
		}
	}
	return false
}
