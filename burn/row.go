package burn

// root returns the smallest number whose square is at least so many places.
func root(places int) int {
	k := 1
	for k*k < places {
		k++
	}
	return k
}

// row returns the fires of a row: each day has a part of the row, which its fire fills by the last day.
func row(places int) []int {
	var fires []int
	start := 0
	for left := root(places); left > 0; left-- {
		middle := start + left - 1
		fires = append(fires, min(middle, places-1))
		start += 2*left - 1
	}
	return fires
}
