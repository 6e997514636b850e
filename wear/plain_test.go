package wear

import (
	"math/big"
	"slices"

	"tinderbox/api"
)

// The plain reading asks of each pair of places what the chapter says, and reckons with numbers that have no end.

func plainLeast(l []api.Wear) int {
	for i, w := range l {
		less := func(o api.Wear) bool { return o.N < w.N }
		if !slices.ContainsFunc(l, less) {
			return i
		}
	}
	return -1
}

// between is a less b.
func between(a, b api.Wear) *big.Int {
	return new(big.Int).Sub(big.NewInt(int64(a.N)), big.NewInt(int64(b.N)))
}

func plainSpread(l []api.Wear) *big.Int {
	most := new(big.Int)
	for _, a := range l {
		for _, b := range l {
			if by := between(a, b); by.Cmp(most) > 0 {
				most = by
			}
		}
	}
	return most
}

func plainCold(all, full []api.Wear, limit int) int {
	i := plainLeast(full)
	if i < 0 {
		return -1
	}
	for _, w := range all {
		if between(w, full[i]).Cmp(big.NewInt(int64(limit))) > 0 {
			return i
		}
	}
	return -1
}
