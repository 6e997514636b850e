package wear

import (
	"math"
	"math/rand"
	"slices"
	"testing"

	"tinderbox/api"
)

// of is blocks with these counts; their numbers rise in steps, so that no place is a block's number.
func of(counts ...int) []api.Wear {
	var l []api.Wear
	for i, n := range counts {
		l = append(l, api.Wear{Block: 3*i + 7, N: n})
	}
	return l
}

func TestLeast(t *testing.T) {
	for _, c := range []struct {
		name string
		list []api.Wear
		want int
	}{
		{"nil", nil, -1},
		{"empty", []api.Wear{}, -1},
		{"the chapter's", of(3, 1, 1), 1},
		{"one", of(5), 0},
		{"one that was never erased", of(0), 0},
		{"the first", of(1, 2, 3), 0},
		{"the last", of(3, 2, 1), 2},
		{"in the midst", of(3, 1, 2), 1},
		{"all alike", of(4, 4, 4), 0},
		{"the first and the last alike", of(2, 9, 2), 0},
		{"several behind a greater one", of(8, 2, 5, 2, 2), 1},
		{"one that was never erased among others", of(1, 0, 1, 0), 1},
		{"the greatest of all counts", of(math.MaxInt), 0},
		{"only the greatest of all counts", of(math.MaxInt, math.MaxInt), 0},
		{"just below the greatest", of(math.MaxInt, math.MaxInt-1), 1},
		{"a count below 0", of(0, -1, 0), 1},
		{"the least of all ints", of(-1, math.MaxInt, math.MinInt, math.MinInt), 2},
	} {
		if got := Least(c.list); got != c.want {
			t.Errorf("%s: Least = %d, want %d", c.name, got, c.want)
		}
	}
}

func TestLeastAsksCountsAlone(t *testing.T) {
	l := []api.Wear{{Block: 9, N: 2}, {Block: 0, N: 3}, {Block: -4, N: 2}, {Block: 9, N: 2}}
	if got := Least(l); got != 0 {
		t.Errorf("Least = %d, want the first of those with the least count", got)
	}
	if got := Spread([]api.Wear{{Block: 1, N: 4}, {Block: 90, N: 4}}); got != 0 {
		t.Errorf("Spread = %d, want 0: the counts are alike", got)
	}
	if got := Cold([]api.Wear{{Block: 90, N: 1}}, []api.Wear{{Block: 2, N: 1}, {Block: 1, N: 1}}, 0); got != -1 {
		t.Errorf("Cold = %d, want -1: the counts are alike", got)
	}
}

func TestSpread(t *testing.T) {
	for _, c := range []struct {
		name string
		list []api.Wear
		want int
	}{
		{"nil", nil, 0},
		{"empty", []api.Wear{}, 0},
		{"the chapter's", of(3, 1, 1), 2},
		{"one", of(5), 0},
		{"all alike", of(4, 4, 4), 0},
		{"rising", of(1, 2, 9), 8},
		{"falling", of(9, 2, 1), 8},
		{"both in the midst", of(5, 9, 1, 5), 8},
		{"by one", of(6, 7), 1},
		{"from none on", of(0, 12), 12},
		{"all that may be worn", of(0, api.MostWorn), api.MostWorn},
		{"the greatest of all counts", of(0, math.MaxInt, 3), math.MaxInt},
		{"counts below 0", of(-3, -1, -9), 8},
		{"on both sides of 0", of(-3, 4), 7},
		{"only the least of all ints", of(math.MinInt, math.MinInt), 0},
		{"as far apart as an int tells", of(-1, math.MaxInt-1), math.MaxInt},
	} {
		if got := Spread(c.list); got != c.want {
			t.Errorf("%s: Spread = %d, want %d", c.name, got, c.want)
		}
	}
}

func TestCold(t *testing.T) {
	for _, c := range []struct {
		name  string
		all   []api.Wear
		full  []api.Wear
		limit int
		want  int
	}{
		{"none at all", nil, nil, 0, -1},
		{"none full", of(1, 90), nil, 0, -1},
		{"none full, an empty list", of(1, 90), []api.Wear{}, 0, -1},
		{"none full, a limit below 0", of(1, 90), nil, math.MinInt, -1},
		{"none in all", nil, of(1, 2), 0, -1},
		{"none in all, an empty list", []api.Wear{}, of(1, 2), 0, -1},
		{"none in all, a limit below 0", nil, of(1, 2), math.MinInt, -1},
		{"below the limit", of(3, 1, 1), of(1, 1), 3, -1},
		{"at the limit", of(3, 1, 1), of(1, 1), 2, -1},
		{"just beyond the limit", of(3, 1, 1), of(1, 1), 1, 0},
		{"far beyond the limit", of(300, 1, 1), of(1, 1), 1, 0},
		{"at the level", of(1, 1+api.Level), of(1), api.Level, -1},
		{"just beyond the level", of(1, 2+api.Level), of(1), api.Level, 0},
		{"alike, no limit", of(4, 4), of(4), 0, -1},
		{"one oftener, no limit", of(4, 5), of(4), 0, 0},
		{"the first of all is above", of(9, 1, 1), of(4, 1, 3), 5, 1},
		{"the last of all is above", of(1, 1, 9), of(4, 3, 1), 5, 2},
		{"one in the midst is above", of(1, 9, 1), of(1, 3, 1), 5, 0},
		{"the place in full, not in all", of(20, 0, 20, 1), of(20, 20, 1), 12, 2},
		{"one that is not full was erased less often", of(0, 14), of(5, 3), 11, -1},
		{"held against the least of full, not of all", of(0, 14), of(5, 3), 10, 1},
		{"full ones alone are apart", of(3), of(90, 3), 5, -1},
		{"full ones were erased oftener than all", of(3, 4), of(90, 80), 5, -1},
		{"the greatest of all counts, at the limit", of(math.MaxInt), of(0), math.MaxInt, -1},
		{"the greatest of all counts, beyond the limit", of(math.MaxInt), of(0), math.MaxInt - 1, 0},
		{"a limit below 0, beyond it", of(3), of(5), -3, 0},
		{"a limit below 0, at it", of(3), of(5), -2, -1},
		{"counts below 0, beyond the limit", of(-1), of(-4), 2, 0},
		{"counts below 0, at the limit", of(-1), of(-4), 3, -1},
		{"farther above than an int tells", of(math.MaxInt), of(math.MinInt), math.MaxInt, 0},
		{"just farther above than an int tells", of(math.MaxInt), of(-1), math.MaxInt, 0},
		{"farther below than an int tells", of(math.MinInt), of(math.MaxInt), math.MinInt, -1},
		{"just farther below than an int tells", of(math.MinInt), of(1), math.MinInt, -1},
		{"as far below as an int tells", of(math.MinInt), of(0), math.MinInt, -1},
		{"alike at the least of all ints", of(math.MinInt), of(math.MinInt), 0, -1},
		{"alike at the least of all ints, any limit", of(math.MinInt), of(math.MinInt), math.MinInt, 0},
	} {
		if got := Cold(c.all, c.full, c.limit); got != c.want {
			t.Errorf("%s: Cold(%v, %v, %d) = %d, want %d", c.name, c.all, c.full, c.limit, got, c.want)
		}
	}
}

// check holds all three against the plain reading.
func check(t *testing.T, all, full []api.Wear, limit int) {
	t.Helper()
	if got, want := Least(all), plainLeast(all); got != want {
		t.Fatalf("Least(%v) = %d, want %d", all, got, want)
	}
	if want := plainSpread(all); want.IsInt64() && int64(Spread(all)) != want.Int64() {
		t.Fatalf("Spread(%v) = %d, want %v", all, Spread(all), want)
	}
	if got, want := Cold(all, full, limit), plainCold(all, full, limit); got != want {
		t.Fatalf("Cold(%v, %v, %d) = %d, want %d", all, full, limit, got, want)
	}
}

// lists is all lists of so many places at most, of these counts.
func lists(places int, counts ...int) [][]api.Wear {
	found := [][]int{nil}
	from := 0
	for range places {
		to := len(found)
		for _, l := range found[from:to] {
			for _, n := range counts {
				found = append(found, append(slices.Clone(l), n))
			}
		}
		from = to
	}
	var made [][]api.Wear
	for _, l := range found {
		made = append(made, of(l...))
	}
	return made
}

func TestAllShortLists(t *testing.T) {
	short := lists(3, 0, 1, 2, 4)
	for _, all := range short {
		for _, full := range short {
			for limit := -5; limit <= 5; limit++ {
				check(t, all, full, limit)
			}
		}
	}
}

func TestAllShortListsOfTheEdges(t *testing.T) {
	edges := []int{math.MinInt, math.MinInt + 1, -1, 0, 1, math.MaxInt - 1, math.MaxInt}
	short := lists(2, edges...)
	for _, all := range short {
		for _, full := range short {
			for _, limit := range edges {
				check(t, all, full, limit)
			}
		}
	}
}

func TestLongListsAtRandom(t *testing.T) {
	r := rand.New(rand.NewSource(11))
	some := func(most int) []api.Wear {
		var l []api.Wear
		for range r.Intn(most + 1) {
			l = append(l, api.Wear{Block: r.Intn(api.MostBlocks), N: r.Intn(20)})
		}
		return l
	}
	for range 5000 {
		all := some(api.MostBlocks)
		full := some(api.MostBlocks)
		if len(all) > 0 && r.Intn(2) == 0 {
			full = all[r.Intn(len(all)):]
		}
		check(t, all, full, r.Intn(24)-2)
	}
}

// A list may have more places than any chip has blocks.
func TestMoreThanAnyChipHas(t *testing.T) {
	l := make([]api.Wear, 100000)
	for i := range l {
		l[i] = api.Wear{Block: i, N: 1 + i%97}
	}
	l[70000].N = 0
	if got := Least(l); got != 70000 {
		t.Errorf("Least = %d, want 70000", got)
	}
	if got := Spread(l); got != 97 {
		t.Errorf("Spread = %d, want 97", got)
	}
	if got := Cold(l, l[60000:], 96); got != 10000 {
		t.Errorf("Cold = %d, want 10000", got)
	}
}

func TestListsAreLeftAsTheyWere(t *testing.T) {
	all, full := of(3, 1, 1, 40), of(9, 2, 2)
	wasAll, wasFull := slices.Clone(all), slices.Clone(full)
	Least(all)
	Spread(all)
	Cold(all, full, 3)
	if !slices.Equal(all, wasAll) || !slices.Equal(full, wasFull) {
		t.Errorf("%v and %v, want %v and %v", all, full, wasAll, wasFull)
	}
}
