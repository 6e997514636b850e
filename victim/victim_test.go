package victim

import (
	"math"
	"math/rand"
	"slices"
	"testing"

	"tinderbox/api"
)

// seen is a block with so many pages that live, of so many, written so long ago.
func seen(live, pages, age int) api.Seen {
	return api.Seen{Live: live, Pages: pages, Age: age}
}

// of is these blocks; their numbers rise in steps, so that no place is a block's number.
func of(blocks ...api.Seen) []api.Seen {
	for i := range blocks {
		blocks[i].Block = 3*i + 7
	}
	return blocks
}

func checkChoose(t *testing.T, name string, l []api.Seen, want int) {
	t.Helper()
	if got := Choose(l); got != want {
		t.Errorf("%s: Choose(%+v) = %d, want %d", name, l, got, want)
	}
}

func TestChoose(t *testing.T) {
	for _, c := range []struct {
		name string
		list []api.Seen
		want int
	}{
		{"nil", nil, -1},
		{"empty", []api.Seen{}, -1},
		{"one", of(seen(3, 8, 2)), 0},
		{"one just written", of(seen(7, 8, 0)), 0},
		{"the first", of(seen(1, 8, 2), seen(2, 8, 2), seen(3, 8, 2)), 0},
		{"the last", of(seen(3, 8, 2), seen(2, 8, 2), seen(1, 8, 2)), 2},
		{"in the midst", of(seen(3, 8, 2), seen(1, 8, 2), seen(2, 8, 2)), 1},
		{"the oldest of alike ones", of(seen(3, 8, 2), seen(3, 8, 9), seen(3, 8, 8)), 1},
		{"age counts against how many live", of(seen(5, 8, 1), seen(6, 8, 50)), 1},
		{"how many live counts against age", of(seen(6, 8, 2), seen(5, 8, 1)), 1},
		{"of how many counts", of(seen(3, 4, 5), seen(3, 8, 5)), 1},
		{"more that live, of far more", of(seen(3, 4, 5), seen(4, 16, 5)), 1},
		{"none lives: worth without an end", of(seen(1, 256, 1000000), seen(0, 8, 0)), 1},
		{"none lives, of one page", of(seen(1, 256, 1000000), seen(0, 1, 0)), 1},
	} {
		checkChoose(t, c.name, c.list, c.want)
	}
}

func TestChooseTheFirstOfSeveral(t *testing.T) {
	for _, c := range []struct {
		name string
		list []api.Seen
		want int
	}{
		{"all alike", of(seen(4, 8, 3), seen(4, 8, 3), seen(4, 8, 3)), 0},
		{"behind a lesser one", of(seen(5, 8, 3), seen(4, 8, 3), seen(4, 8, 3)), 1},
		{"the first and the last", of(seen(4, 8, 3), seen(5, 8, 3), seen(4, 8, 3)), 0},
		{"alike by other numbers", of(seen(6, 8, 0), seen(4, 8, 3), seen(2, 4, 3), seen(6, 8, 11)), 1},
		{"alike by other numbers, the other way round", of(seen(6, 8, 11), seen(2, 4, 3), seen(4, 8, 3)), 0},
		{"none lives, whatever the ages", of(seen(1, 8, 9), seen(0, 8, 1), seen(0, 8, 90)), 1},
		{"none lives, whatever the pages", of(seen(0, 8, 1), seen(0, 256, 1)), 0},
		{"all that live within what a float tells", of(seen(math.MaxInt-1, math.MaxInt, 5), seen(math.MaxInt-2, math.MaxInt, 9)), 0},
		{"ages alike to a float", of(seen(1, 2, math.MaxInt-1), seen(1, 2, math.MaxInt)), 0},
	} {
		checkChoose(t, c.name, c.list, c.want)
	}
}

func TestChooseNoneOfWhichAllLive(t *testing.T) {
	for _, c := range []struct {
		name string
		list []api.Seen
		want int
	}{
		{"the chapter's", of(seen(8, 8, 0)), -1},
		{"old", of(seen(8, 8, 1000000)), -1},
		{"of one page", of(seen(1, 1, 5)), -1},
		{"several", of(seen(8, 8, 3), seen(4, 4, 9), seen(256, 256, 0)), -1},
		{"ahead of one that may", of(seen(8, 8, 90), seen(7, 8, 0)), 1},
		{"behind one that may", of(seen(7, 8, 0), seen(8, 8, 90)), 0},
		{"more than all", of(seen(9, 8, 3)), -1},
		{"more than all, worth more by age", of(seen(9, 8, -90)), -1},
		{"more than all, ahead of one that may", of(seen(9, 8, -90), seen(7, 8, 0)), 1},
		{"all, worth more than one below 0", of(seen(8, 8, 3), seen(4, 8, -9)), 1},
		{"all, alike with one that is worth 0", of(seen(8, 8, 3), seen(4, 8, -1)), 1},
		{"more than none", of(seen(1, 0, 3)), -1},
		{"as many below 0", of(seen(-8, -8, 3)), -1},
		{"more, both below 0", of(seen(-4, -8, 3)), -1},
		{"none of fewer than none", of(seen(0, -8, 3)), -1},
		{"all, the greatest of all ints", of(seen(math.MaxInt, math.MaxInt, 3)), -1},
		{"all, the least of all ints", of(seen(math.MinInt, math.MinInt, 3)), -1},
	} {
		checkChoose(t, c.name, c.list, c.want)
	}
}

func TestChooseNoneThatIsWorthNoNumber(t *testing.T) {
	for _, c := range []struct {
		name string
		list []api.Seen
		want int
	}{
		{"no pages", of(seen(0, 0, 3)), -1},
		{"no pages, fewer than none live", of(seen(-1, 0, 3)), -1},
		{"not yet written, none lives", of(seen(0, 8, -1)), -1},
		{"all kinds", of(seen(-1, 0, 3), seen(0, 8, -1), seen(8, 8, 2), seen(0, 0, 0)), -1},
		{"ahead of a number", of(seen(-1, 0, 3), seen(0, 8, -1), seen(7, 8, 0)), 2},
		{"behind a number", of(seen(7, 8, 0), seen(-1, 0, 3), seen(0, 8, -1)), 0},
		{"between numbers", of(seen(7, 8, 0), seen(-1, 0, 3), seen(6, 8, 0)), 2},
		{"ahead of one below 0", of(seen(-1, 0, 3), seen(4, 8, -9)), 1},
		{"ahead of one below 0 without an end", of(seen(0, 8, -1), seen(0, 8, -2)), 1},
	} {
		checkChoose(t, c.name, c.list, c.want)
	}
}

func TestChooseByTheOrderOfFloats(t *testing.T) {
	for _, c := range []struct {
		name string
		list []api.Seen
		want int
	}{
		{"below 0 alone", of(seen(4, 8, -3)), 0},
		{"below 0 without an end, alone", of(seen(0, 8, -5)), 0},
		{"below 0 without an end, then below 0", of(seen(0, 8, -5), seen(1, 8, math.MinInt)), 1},
		{"below 0, the greatest", of(seen(4, 8, -9), seen(4, 8, -3), seen(4, 8, -5)), 1},
		{"0 after below 0", of(seen(4, 8, -2), seen(4, 8, -1)), 1},
		{"0 after 0 below 0", of(seen(-8, 8, -1), seen(4, 8, -1)), 1},
		{"0 below 0 after 0", of(seen(4, 8, -1), seen(-8, 8, -1)), 0},
		{"0 below 0 twice", of(seen(4, 8, -2), seen(-8, 8, -1), seen(-8, 8, -1)), 1},
		{"fewer than none live", of(seen(-1, 8, 3), seen(-8, 8, 3)), 1},
		{"both below 0", of(seen(-8, -4, 3), seen(-5, -4, 3)), 1},
		{"the greatest age does not wrap round", of(seen(1, 8, 1000), seen(1, 8, math.MaxInt)), 1},
		{"the least of all ints", of(seen(math.MinInt, math.MaxInt, 3), seen(math.MinInt, -1, 3)), 1},
	} {
		checkChoose(t, c.name, c.list, c.want)
	}
}

// As fractions both are worth the same; as floats, in the order in which chapter 3 reckons, the second is worth more.
func TestChooseByFloatsNotByFractions(t *testing.T) {
	for _, l := range [][]api.Seen{
		of(seen(1, 5, 0), seen(3, 5, 5)),
		of(seen(2, 5, 3), seen(3, 5, 8)),
		of(seen(4, 5, 5), seen(2, 5, 0)),
		of(seen(4, 5, 7), seen(3, 5, 2)),
		of(seen(3, 5, 17), seen(1, 5, 2)),
	} {
		checkChoose(t, "the second is worth more", l, 1)
		checkChoose(t, "and so it is as the first", of(l[1], l[0]), 0)
	}
}

func TestEmpty(t *testing.T) {
	for _, c := range []struct {
		name string
		list []api.Seen
		want int
	}{
		{"nil", nil, -1},
		{"empty", []api.Seen{}, -1},
		{"one of which none lives", of(seen(0, 8, 3)), 0},
		{"one of which some live", of(seen(3, 8, 3)), -1},
		{"one of which one lives", of(seen(1, 8, 3)), -1},
		{"one of which all live", of(seen(8, 8, 3)), -1},
		{"none of several", of(seen(1, 8, 3), seen(8, 8, 3), seen(1, 1, 0)), -1},
		{"the first", of(seen(0, 8, 3), seen(1, 8, 3)), 0},
		{"the last", of(seen(1, 8, 3), seen(8, 8, 3), seen(0, 8, 3)), 2},
		{"in the midst", of(seen(1, 8, 3), seen(0, 8, 3), seen(2, 8, 3)), 1},
		{"the first of several", of(seen(1, 8, 3), seen(0, 8, 3), seen(0, 8, 3)), 1},
		{"the first, though others are older", of(seen(0, 8, 3), seen(0, 8, 90)), 0},
		{"the first, though others have more pages", of(seen(0, 8, 3), seen(0, 256, 3)), 0},
		{"just written", of(seen(1, 8, 3), seen(0, 8, 0)), 1},
		{"not yet written", of(seen(1, 8, 3), seen(0, 8, -1)), 1},
		{"below 0 is not 0", of(seen(-1, 8, 3), seen(math.MinInt, 8, 3)), -1},
		{"no pages", of(seen(1, 8, 3), seen(0, 0, 3), seen(0, 8, 3)), 1},
		{"fewer than no pages", of(seen(1, 8, 3), seen(0, -8, 3), seen(0, 8, 3)), 1},
	} {
		if got := Empty(c.list); got != c.want {
			t.Errorf("%s: Empty(%+v) = %d, want %d", c.name, c.list, got, c.want)
		}
	}
}

func TestBlocksNumbersCountNothing(t *testing.T) {
	l := []api.Seen{{Block: 9, Live: 3, Pages: 8, Age: 2}, {Block: 0, Live: 0, Pages: 8}, {Block: -4, Live: 0, Pages: 8}, {Block: 90, Live: 0, Pages: 8}}
	for range 2 {
		if got := Choose(l); got != 1 {
			t.Errorf("Choose(%+v) = %d, want 1", l, got)
		}
		if got := Empty(l); got != 1 {
			t.Errorf("Empty(%+v) = %d, want 1", l, got)
		}
		l[1].Block, l[2].Block = l[2].Block, l[1].Block
	}
}

// check holds both against the plain reading.
func check(t *testing.T, l []api.Seen) {
	t.Helper()
	if got, want := Choose(l), plainChoose(l); got != want {
		t.Fatalf("Choose(%+v) = %d, want %d", l, got, want)
	}
	if got, want := Empty(l), plainEmpty(l); got != want {
		t.Fatalf("Empty(%+v) = %d, want %d", l, got, want)
	}
}

// blocks is all blocks of these numbers.
func blocks(lives, pages, ages []int) []api.Seen {
	var l []api.Seen
	for _, live := range lives {
		for _, n := range pages {
			for _, age := range ages {
				l = append(l, seen(live, n, age))
			}
		}
	}
	return l
}

func checkAllPairs(t *testing.T, l []api.Seen) {
	t.Helper()
	for _, a := range l {
		check(t, of(a))
		for _, b := range l {
			check(t, of(a, b))
		}
	}
}

func TestAllPairs(t *testing.T) {
	checkAllPairs(t, blocks([]int{0, 1, 2, 3, 4, 5, 6, 7, 8}, []int{1, 3, 4, 5, 8}, []int{0, 1, 2, 5, 11}))
}

func TestAllPairsOfTheEdges(t *testing.T) {
	edges := []int{math.MinInt, math.MinInt + 1, -8, -1, 0, 1, 8, math.MaxInt - 1, math.MaxInt}
	checkAllPairs(t, blocks(edges, edges, []int{math.MinInt, -2, -1, 0, 1, math.MaxInt}))
}

func TestAllTriples(t *testing.T) {
	l := blocks([]int{-4, 0, 2, 4}, []int{0, 4, 8}, []int{-2, -1, 0, 3})
	for _, a := range l {
		for _, b := range l {
			for _, c := range l {
				check(t, of(a, b, c))
			}
		}
	}
}

func TestLongListsAtRandom(t *testing.T) {
	r := rand.New(rand.NewSource(12))
	for range 5000 {
		var l []api.Seen
		least, ages := r.Intn(3), 1+r.Intn(40)
		for range r.Intn(api.MostBlocks + 1) {
			pages := 4 + r.Intn(13)
			live := min(pages, least+r.Intn(pages+1))
			l = append(l, api.Seen{Block: r.Intn(api.MostBlocks), Live: live, Pages: pages, Age: r.Intn(ages)})
		}
		check(t, l)
	}
}

// A list may have more places than any chip has blocks.
func TestMoreThanAnyChipHas(t *testing.T) {
	l := make([]api.Seen, 100000)
	for i := range l {
		l[i] = api.Seen{Block: i, Live: 1 + i%8, Pages: 8, Age: 5}
	}
	l[70001].Live, l[70001].Age = 1, 6
	if got := Choose(l); got != 70001 {
		t.Errorf("Choose = %d, want 70001", got)
	}
	if got := Empty(l); got != -1 {
		t.Errorf("Empty = %d, want -1", got)
	}
	l[80000].Live, l[90000].Live = 0, 0
	if got := Choose(l); got != 80000 {
		t.Errorf("Choose = %d, want 80000", got)
	}
	if got := Empty(l); got != 80000 {
		t.Errorf("Empty = %d, want 80000", got)
	}
}

func TestListsAreLeftAsTheyWere(t *testing.T) {
	l := of(seen(8, 8, 9), seen(5, 8, 1), seen(0, 0, 4), seen(0, 8, 2), seen(-1, 0, 3))
	was := slices.Clone(l)
	Choose(l)
	Empty(l)
	if !slices.Equal(l, was) {
		t.Errorf("%+v, want %+v", l, was)
	}
}
