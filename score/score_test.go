package score

import (
	"math"
	"slices"
	"testing"

	"tinderbox/api"
)

var (
	none     = math.NaN()
	otherNaN = math.Float64frombits(0xfff8000000000001)
	endless  = math.Inf(1)
	bottom   = math.Inf(-1)
	downZero = math.Copysign(0, -1)
	tiny     = math.SmallestNonzeroFloat64
	most     = math.MaxFloat64
)

// same holds bits against each other, so that the zeros differ; all no numbers are alike.
func same(a, b float64) bool {
	if a != a || b != b {
		return a != a && b != b
	}
	return math.Float64bits(a) == math.Float64bits(b)
}

func sign(n int) int {
	switch {
	case n < 0:
		return -1
	case n > 0:
		return 1
	}
	return 0
}

func TestOf(t *testing.T) {
	for _, c := range []struct {
		name string
		heap api.Heap
		want float64
	}{
		{"the chapter's", api.Heap{Live: 4, Pages: 8, Age: 3}, 2},
		{"none lives", api.Heap{Pages: 8}, endless},
		{"none lives, old", api.Heap{Pages: 8, Age: 1000}, endless},
		{"none lives of one", api.Heap{Pages: 1}, endless},
		{"all live", api.Heap{Live: 8, Pages: 8, Age: 9}, 0},
		{"just written", api.Heap{Live: 1, Pages: 2}, 0.5},
		{"a quarter", api.Heap{Live: 2, Pages: 8, Age: 1}, 3},
		{"three quarters", api.Heap{Live: 6, Pages: 8, Age: 5}, 1},
		{"no pages", api.Heap{}, none},
		{"no pages, some live", api.Heap{Live: 1, Age: 3}, none},
		{"no pages, fewer than none live", api.Heap{Live: -1, Age: 3}, none},
		{"no pages, the greatest age", api.Heap{Age: math.MaxInt}, none},
		{"the greatest age does not wrap round", api.Heap{Live: 1, Pages: 2, Age: math.MaxInt}, 4611686018427387904},
		{"the least age", api.Heap{Live: 1, Pages: 2, Age: math.MinInt}, -4611686018427387904},
		{"more live than there are", api.Heap{Live: 16, Pages: 8, Age: 3}, -1},
		{"fewer than none live", api.Heap{Live: -8, Pages: 8, Age: 3}, -4},
		{"as many below none", api.Heap{Live: -4, Pages: -8, Age: 3}, 2},
		{"one below none", api.Heap{Live: -1, Pages: -1, Age: 3}, 0},
		{"not yet written, none lives", api.Heap{Pages: 8, Age: -1}, none},
		{"not yet written", api.Heap{Live: 4, Pages: 8, Age: -1}, 0},
	} {
		if got := Of(c.heap); !same(got, c.want) {
			t.Errorf("%s: Of(%+v) = %v, want %v", c.name, c.heap, got, c.want)
		}
	}
}

// Other orders of the same products and quotients round otherwise at these: the bits tell which order was taken.
func TestOfInTheDocumentsOrder(t *testing.T) {
	for _, c := range []struct {
		heap api.Heap
		want uint64
	}{
		{api.Heap{Live: 4, Pages: 5, Age: 4}, 0x3fe3fffffffffffe},
		{api.Heap{Live: 4, Pages: 5, Age: 14}, 0x3ffdfffffffffffd},
		{api.Heap{Live: 1, Pages: 7, Age: 18}, 0x404c800000000002},
		{api.Heap{Live: 6, Pages: 7, Age: 30}, 0x4004aaaaaaaaaaac},
		{api.Heap{Live: 8, Pages: 9, Age: 4}, 0x3fd4000000000003},
	} {
		if got := math.Float64bits(Of(c.heap)); got != c.want {
			t.Errorf("Of(%+v) = %#x, want %#x", c.heap, got, c.want)
		}
	}
}

func TestOfFewerThatLiveAreWorthMore(t *testing.T) {
	for _, pages := range []int{1, 2, 8, 13, 256} {
		for _, age := range []int{0, 1, 7, 1000000} {
			for live := range pages {
				fewer := Of(api.Heap{Live: live, Pages: pages, Age: age})
				more := Of(api.Heap{Live: live + 1, Pages: pages, Age: age})
				if Order(fewer, more) <= 0 {
					t.Errorf("%d pages, age %d: %d live is worth %v, one more %v", pages, age, live, fewer, more)
				}
			}
		}
	}
}

func TestOfOlderOnesAreWorthMore(t *testing.T) {
	for age := range 100 {
		young := Of(api.Heap{Live: 3, Pages: 8, Age: age})
		old := Of(api.Heap{Live: 3, Pages: 8, Age: age + 1})
		if Order(old, young) <= 0 {
			t.Errorf("age %d is worth %v, one more %v", age, young, old)
		}
	}
}

// rising is floats of all kinds, each below the next one.
func rising() []float64 {
	return []float64{
		none, bottom, -most, -1e300, -3, -1 - 1e-15, -1, -0.5, -tiny * 2, -tiny,
		downZero, 0, tiny, tiny * 2, 0.5, 1, 1 + 1e-15, 2, 1e300, most, endless,
	}
}

func TestOrderOfAllPairs(t *testing.T) {
	l := rising()
	for i, a := range l {
		for j, b := range l {
			if got := Order(a, b); sign(got) != sign(i-j) {
				t.Errorf("Order(%v, %v) = %d, want the sign of %d", a, b, got, i-j)
			}
		}
	}
}

func TestOrderOfNoNumbers(t *testing.T) {
	kinds := []float64{none, otherNaN, math.Float64frombits(0x7ff0000000000001), math.Float64frombits(0xffffffffffffffff)}
	for _, a := range kinds {
		for _, b := range kinds {
			if got := Order(a, b); got != 0 {
				t.Errorf("Order(%#x, %#x) = %d, want 0", math.Float64bits(a), math.Float64bits(b), got)
			}
		}
		if Order(a, bottom) >= 0 || Order(bottom, a) <= 0 || Order(a, downZero) >= 0 || Order(0, a) <= 0 {
			t.Errorf("%#x is not below all numbers", math.Float64bits(a))
		}
	}
}

func TestBest(t *testing.T) {
	for _, c := range []struct {
		name string
		list []float64
		want int
	}{
		{"nil", nil, -1},
		{"empty", []float64{}, -1},
		{"no number", []float64{none}, -1},
		{"no numbers alone", []float64{none, otherNaN, none}, -1},
		{"one", []float64{5}, 0},
		{"the first", []float64{9, 3, 4}, 0},
		{"the last", []float64{-3, 3, 4}, 2},
		{"in the midst", []float64{1, 7, 3}, 1},
		{"the first of several", []float64{1, 7, 7, 3, 7}, 1},
		{"no number ahead", []float64{none, 1, endless, endless}, 2},
		{"no number behind", []float64{2, 1, none}, 0},
		{"all below 0", []float64{-5, -2, -9}, 1},
		{"without an end below 0 alone", []float64{none, bottom, none}, 1},
		{"one above without an end below", []float64{bottom, -most}, 1},
		{"0 after 0 below 0", []float64{downZero, 0}, 1},
		{"0 below 0 after 0", []float64{0, downZero}, 0},
		{"0 below 0 twice", []float64{-1, downZero, downZero}, 1},
		{"the greatest number and without an end", []float64{most, endless}, 1},
	} {
		if got := Best(c.list); got != c.want {
			t.Errorf("%s: Best(%v) = %d, want %d", c.name, c.list, got, c.want)
		}
	}
}

func TestMean(t *testing.T) {
	for _, c := range []struct {
		name string
		list []float64
		want float64
	}{
		{"nil", nil, none},
		{"empty", []float64{}, none},
		{"none finite", []float64{none, endless, bottom, otherNaN}, none},
		{"one", []float64{7.25}, 7.25},
		{"two", []float64{1, 3}, 2},
		{"without an end is left out", []float64{1, endless, 3}, 2},
		{"without an end below 0 is left out", []float64{bottom, 1, bottom, 3}, 2},
		{"no number is left out", []float64{none, 1, 3, none}, 2},
		{"below 0", []float64{-1, -2, -6}, -3},
		{"0 alone", []float64{0}, 0},
		{"0 below 0 alone", []float64{downZero}, 0},
		{"a sum of them would have no end", []float64{most, most, most}, most},
		{"two apart further than a float goes", []float64{-most, most}, endless},
		{"and one more", []float64{-most, most, 0}, none},
	} {
		if got := Mean(c.list); !same(got, c.want) {
			t.Errorf("%s: Mean(%v) = %v, want %v", c.name, c.list, got, c.want)
		}
	}
}

// The sum by how many there are, and other ways to the same mean, round otherwise at these.
func TestMeanOneByOne(t *testing.T) {
	for _, c := range []struct {
		list []float64
		want uint64
	}{
		{[]float64{0.1, 0.2, 0.3}, 0x3fc999999999999a},
		{[]float64{0.1, 0.7, 0.2, 1.3}, 0x3fe2666666666667},
		{[]float64{5.3, 7.5, 3.0, 4.4, 8.8}, 0x4017333333333333},
		{[]float64{7.3, 4.7, 3.1, 4.2, 6.2}, 0x4014666666666667},
	} {
		if got := math.Float64bits(Mean(c.list)); got != c.want {
			t.Errorf("Mean(%v) = %#x, want %#x", c.list, got, c.want)
		}
	}
}

func TestListsStayAsTheyWere(t *testing.T) {
	l, kept := rising(), rising()
	Best(l)
	Mean(l)
	if !slices.EqualFunc(l, kept, same) {
		t.Errorf("%v, want %v", l, kept)
	}
}

func TestPerMille(t *testing.T) {
	for _, c := range []struct {
		in   float64
		want int
		ok   bool
	}{
		{0, 0, true},
		{downZero, 0, true},
		{tiny, 0, true},
		{0.0009, 0, true},
		{math.Nextafter(0.001, 0), 0, true},
		{0.001, 1, true},
		{0.0019, 1, true},
		{0.9999, 999, true},
		{1, 1000, true},
		{1.5, 1500, true},
		{1.9999, 1999, true},
		{2.0 / 3, 666, true},
		{1000, 1000000, true},
		{1000.5, 1000500, true},
		{999999.9999, 999999999, true},
		{1000000, 1000000000, true},
		{math.Nextafter(1000000, endless), 0, false},
		{1000001, 0, false},
		{most, 0, false},
		{endless, 0, false},
		{-tiny, 0, false},
		{-0.0001, 0, false},
		{-1, 0, false},
		{-1000000, 0, false},
		{-most, 0, false},
		{bottom, 0, false},
		{none, 0, false},
		{otherNaN, 0, false},
	} {
		if got, ok := PerMille(c.in); got != c.want || ok != c.ok {
			t.Errorf("PerMille(%v) = %d, %v, want %d, %v", c.in, got, ok, c.want, c.ok)
		}
	}
}
