package victim

import (
	"math"
	"slices"

	"tinderbox/api"
)

// The plain reading asks of each pair of places what the chapters say, with worths of its own.

// plainWorth is what chapter 3 says of a block, in its order.
func plainWorth(s api.Seen) float64 {
	if s.Pages == 0 {
		return math.NaN()
	}
	u := float64(s.Live) / float64(s.Pages)
	return (float64(s.Age) + 1) * (1 - u) / (2 * u)
}

func plainMay(s api.Seen) bool {
	w := plainWorth(s)
	return s.Live < s.Pages && w == w
}

// plainAbove tells whether a is worth more than b; 0 is more than 0 below 0.
func plainAbove(a, b api.Seen) bool {
	x, y := plainWorth(a), plainWorth(b)
	return x > y || x == y && math.Signbit(y) && !math.Signbit(x)
}

func plainChoose(l []api.Seen) int {
	for i, s := range l {
		more := func(o api.Seen) bool { return plainMay(o) && plainAbove(o, s) }
		if plainMay(s) && !slices.ContainsFunc(l, more) {
			return i
		}
	}
	return -1
}

func plainEmpty(l []api.Seen) int {
	return slices.IndexFunc(l, func(s api.Seen) bool { return s.Live == 0 })
}
