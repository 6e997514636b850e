package write

import (
	"math"
	"math/rand"
	"slices"
	"strconv"
	"strings"
	"testing"

	"tinderbox/api"
	"tinderbox/life"
	"tinderbox/nand"
	"tinderbox/page"
)

var small = api.Geometry{Blocks: 8, Pages: 4, Size: 64}

// bench is a writer with what it was made of.
type bench struct {
	*Writer
	t    *testing.T
	chip *nand.Chip
	life *life.Life
}

func made(t *testing.T, g api.Geometry, f api.Faults, worn []int) bench {
	t.Helper()
	c, e := nand.New(g, f)
	if e != api.OK {
		t.Fatal(e)
	}
	l, e := life.New(g.Blocks, g.Pages)
	if e != api.OK {
		t.Fatal(e)
	}
	w, e := New(c, l, worn)
	if e != api.OK || w == nil {
		t.Fatal(e)
	}
	return bench{w, t, c, l}
}

// fresh is one on a small chip of which no block was erased yet.
func fresh(t *testing.T, f api.Faults) bench {
	t.Helper()
	return made(t, small, f, make([]int, small.Blocks))
}

func data(seq uint64) api.Tag { return api.Tag{Kind: api.PageData, Seq: seq, Of: 1} }

func (w bench) wantAppend(s string, at int) {
	w.t.Helper()
	if got, e := w.Append(data(5), s); e != api.OK || got != at {
		w.t.Fatal("written at", got, e, "want", at)
	}
}

func (w bench) wantRefused(tag api.Tag, s string, want api.Errno) {
	w.t.Helper()
	if at, e := w.Append(tag, s); e != want || at != 0 {
		w.t.Fatal("written at", at, e, "want", want)
	}
}

func (w bench) wantErase(b int, want api.Errno) {
	w.t.Helper()
	if e := w.Erase(b); e != want {
		w.t.Fatal("erased", b, e, "want", want)
	}
}

func (w bench) wantRead(at int, tag api.Tag, s string) {
	w.t.Helper()
	if gotTag, got, e := w.Read(at); e != api.OK || gotTag != tag || got != s {
		w.t.Fatal("read", at, gotTag, got, e, "want", tag, s)
	}
}

func (w bench) wantUnread(at int, want api.Errno) {
	w.t.Helper()
	if tag, s, e := w.Read(at); e != want || tag != (api.Tag{}) || s != "" {
		w.t.Fatal("read", at, tag, s, e, "want", want)
	}
}

func (w bench) wantBads(want ...int) {
	w.t.Helper()
	if got := w.Bads(); !slices.Equal(got, want) {
		w.t.Fatal("bads", got, "want", want)
	}
}

func (w bench) wantWorn(want ...int) {
	w.t.Helper()
	if got := w.Worn(); !slices.Equal(got, want) {
		w.t.Fatal("worn", got, "want", want)
	}
}

func (w bench) wantIs(b, what int) {
	w.t.Helper()
	if w.life.Is(b) != what {
		w.t.Fatal("block", b, "is", w.life.Is(b), "want", what)
	}
}

func (w bench) wantMarked(b int, want bool) {
	w.t.Helper()
	if got, e := w.chip.Marked(b); e != api.OK || got != want {
		w.t.Fatal("block", b, "is marked", got, e)
	}
}

func TestErrorsNumber(t *testing.T) {
	if api.ErrFull != 130 {
		t.Error(api.ErrFull)
	}
}

func TestNew(t *testing.T) {
	for _, g := range []api.Geometry{small, {Blocks: 32, Pages: 16, Size: 256}, {Blocks: 9, Pages: 5, Size: 65}} {
		c, _ := nand.New(g, api.Faults{})
		l, _ := life.New(g.Blocks, g.Pages)
		for _, n := range []int{0, 1, g.Blocks - 1, g.Blocks, g.Blocks + 1, 100} {
			w, e := New(c, l, make([]int, n))
			if n == g.Blocks && (e != api.OK || w == nil || w.Life() != l) {
				t.Error(g, n, e)
			}
			if n != g.Blocks && (e != api.ErrInput || w != nil) {
				t.Error(g, n, e)
			}
		}
		if w, e := New(c, l, nil); e != api.ErrInput || w != nil {
			t.Error(g, e)
		}
	}
}

func TestNewOfNothing(t *testing.T) {
	c, _ := nand.New(small, api.Faults{})
	l, _ := life.New(8, 4)
	for i, w := range []struct {
		c    *nand.Chip
		l    *life.Life
		worn []int
	}{{nil, l, make([]int, 8)}, {c, nil, make([]int, 8)}, {nil, nil, make([]int, 8)}, {nil, l, nil}, {c, nil, nil}, {nil, nil, nil}} {
		if got, e := New(w.c, w.l, w.worn); e != api.ErrInput || got != nil {
			t.Error(i, e)
		}
	}
}

// New does nothing yet to what it is handed.
func TestNewChangesNothing(t *testing.T) {
	w := fresh(t, api.Faults{})
	if w.chip.Did() != 0 || w.life.Room() != 32 || w.life.Count(api.BlockFree) != 8 {
		t.Error("something was done")
	}
	w.wantBads()
}

func TestExample(t *testing.T) {
	w := fresh(t, api.Faults{})
	w.wantAppend("one", 0)
	w.wantAppend("two", 1)
}

// Places go on from block to block, and are of the chip's pages.
func TestAppendAllPlaces(t *testing.T) {
	for _, g := range []api.Geometry{small, {Blocks: 9, Pages: 5, Size: 65}, {Blocks: 32, Pages: 16, Size: 256}} {
		w := made(t, g, api.Faults{}, make([]int, g.Blocks))
		for at := range g.Blocks * g.Pages {
			if got, e := w.Append(data(uint64(at)), strconv.Itoa(at)); e != api.OK || got != at {
				t.Fatal(g, at, got, e)
			}
			w.wantRead(at, data(uint64(at)), strconv.Itoa(at))
		}
		if w.chip.Did() != g.Blocks*g.Pages || w.life.Count(api.BlockFull) != g.Blocks {
			t.Error(g)
		}
		w.wantRefused(data(1), "", api.ErrFull)
		w.wantBads()
	}
}

// What is laid on the chip is just what page frames.
func TestAppendIsAFrame(t *testing.T) {
	for _, tag := range []api.Tag{
		{Kind: api.PageData, Seq: 5, Of: 1},
		{Kind: api.PageJournal, Seq: math.MaxUint64, Index: 2, Of: 3},
		{Kind: api.PageCheck, Seq: 0, Index: 65534, Of: 65535},
	} {
		for _, s := range []string{"", "text", "\xff\x00", strings.Repeat("x", 64), strings.Repeat("\xff", 64)} {
			w := made(t, small, api.Faults{}, []int{9, 9, 7, 9, 9, 9, 9, 9})
			at, e := w.Append(tag, s)
			if e != api.OK || at != 8 {
				t.Fatal(tag, at, e)
			}
			tag.Worn = 7
			wantData, wantSpare, _ := page.Frame(tag, s, 64)
			if d, x, _ := w.chip.Read(2, 0); d != wantData || x != wantSpare {
				t.Error(tag, s)
			}
			w.wantRead(8, tag, s)
		}
	}
}

func TestAppendInput(t *testing.T) {
	long := strings.Repeat("x", 65)
	for name, x := range map[string]struct {
		tag api.Tag
		s   string
	}{
		"no kind":         {api.Tag{Of: 1}, "a"},
		"another kind":    {api.Tag{Kind: 4, Of: 1}, "a"},
		"of none":         {api.Tag{Kind: 1}, "a"},
		"of too many":     {api.Tag{Kind: 1, Of: 65536}, "a"},
		"index below 0":   {api.Tag{Kind: 1, Index: -1, Of: 1}, "a"},
		"index beyond":    {api.Tag{Kind: 1, Index: 1, Of: 1}, "a"},
		"a text too long": {data(1), long},
		"both":            {api.Tag{}, long},
	} {
		w := fresh(t, api.Faults{})
		w.wantRefused(x.tag, x.s, api.ErrInput)
		if w.life.Count(api.BlockFree) != 8 || w.life.Room() != 32 || w.chip.Did() != 0 {
			t.Error(name, "something was done")
		}
		w.wantAppend("ok", 0)
	}
}

// The Worn that is handed in is not looked at, whether a tag may have it or not.
func TestAppendItsWornIsNotLookedAt(t *testing.T) {
	for _, worn := range []int{0, 1, -1, 3, 1 << 32, math.MaxInt, math.MinInt} {
		w := made(t, small, api.Faults{}, []int{3, 3, 3, 3, 3, 3, 3, 3})
		tag := data(2)
		tag.Worn = worn
		if at, e := w.Append(tag, "a"); at != 0 || e != api.OK {
			t.Fatal(worn, at, e)
		}
		tag.Worn = 3
		w.wantRead(0, tag, "a")
		tag.Worn, tag.Kind = worn, 0
		w.wantRefused(tag, "a", api.ErrInput)
	}
}

// Each page tells how often its own block was erased, as often as that is by then.
func TestAppendTellsWorn(t *testing.T) {
	w := made(t, small, api.Faults{}, []int{5, 1, 4, 2, 3, 8, 7, 6})
	order := []int{1, 3, 4, 2, 0, 7, 6, 5}
	for i, b := range order {
		for p := range 4 {
			w.wantAppend("x", b*4+p)
			tag := data(5)
			tag.Worn = i + 1
			w.wantRead(b*4+p, tag, "x")
		}
	}
	w.wantErase(6, api.OK)
	w.wantAppend("y", 24)
	tag := data(5)
	tag.Worn = 8
	w.wantRead(24, tag, "y")
}

func TestAppendOpensTheLeastWorn(t *testing.T) {
	for name, x := range map[string]struct {
		worn []int
		lay  func(*life.Life)
		at   int
	}{
		"the first of all alike":       {[]int{2, 2, 2, 2, 2, 2, 2, 2}, nil, 0},
		"the least":                    {[]int{2, 2, 2, 1, 2, 2, 2, 2}, nil, 12},
		"the first of several least":   {[]int{9, 4, 3, 6, 3, 3, 8, 7}, nil, 8},
		"the last":                     {[]int{9, 9, 9, 9, 9, 9, 9, 0}, nil, 28},
		"the least is full":            {[]int{0, 5, 4, 4, 4, 4, 4, 4}, func(l *life.Life) { l.Full(0) }, 8},
		"the least is bad":             {[]int{3, 0, 4, 4, 4, 4, 4, 4}, func(l *life.Life) { l.Bad(1) }, 0},
		"one is open, worn more":       {[]int{0, 0, 0, 0, 0, 7, 0, 0}, func(l *life.Life) { l.Open(5) }, 20},
		"one is open, pages are taken": {[]int{0, 0, 0, 0, 0, 7, 0, 0}, func(l *life.Life) { l.Open(5); l.Take(); l.Take() }, 22},
		"one was open":                 {[]int{0, 0, 0, 0, 0, 7, 0, 0}, func(l *life.Life) { l.Open(1); l.Full(1) }, 0},
		"one alone is free":            {[]int{0, 0, 0, 9, 0, 0, 0, 0}, func(l *life.Life) { fullBut(l, 3) }, 12},
	} {
		t.Run(name, func(t *testing.T) {
			w := made(t, small, api.Faults{}, x.worn)
			if x.lay != nil {
				x.lay(w.life)
			}
			w.wantAppend("x", x.at)
			if b, p, open := w.life.At(); x.at%4 != 3 && (!open || b*4+p != x.at+1) {
				t.Error(b, p, open)
			}
		})
	}
}

func fullBut(l *life.Life, b int) {
	for other := range 8 {
		if other != b {
			l.Full(other)
		}
	}
}

// A block stays open until its last page, whatever else is erased less often by then.
func TestAppendStaysInTheOpenBlock(t *testing.T) {
	w := made(t, small, api.Faults{}, []int{1, 2, 2, 2, 2, 2, 2, 0})
	for p := range 4 {
		w.wantAppend("x", 28+p)
	}
	w.wantIs(7, api.BlockFull)
	w.wantAppend("x", 0)
	w.wantErase(7, api.OK)
	for p := range 3 {
		w.wantAppend("x", 1+p)
	}
	w.wantAppend("x", 28)
}

func TestAppendFull(t *testing.T) {
	w := fresh(t, api.Faults{})
	for b := range 8 {
		if b%2 == 0 {
			w.life.Full(b)
		} else {
			w.life.Bad(b)
		}
	}
	w.wantRefused(data(1), "x", api.ErrFull)
	if w.chip.Did() != 0 {
		t.Error("something was done")
	}
	w.wantRefused(api.Tag{}, "x", api.ErrInput)
	w.wantErase(4, api.OK)
	w.wantAppend("x", 16)
}

// Errors are told in the order in which they are named: ErrInput, ErrFull, the chip's.
func TestAppendErrorsInOrder(t *testing.T) {
	w := fresh(t, api.Faults{Cuts: []api.Cut{{At: 1, Keep: 5}}})
	w.wantRefused(data(1), "x", api.ErrOff)
	w.wantRefused(api.Tag{}, "x", api.ErrInput)
	w.wantRefused(data(1), "x", api.ErrOff)
	for b := range 8 {
		w.life.Full(b)
	}
	w.wantRefused(data(1), "x", api.ErrFull)
	w.wantRefused(api.Tag{}, "x", api.ErrInput)
}

// A page in which the power fails is taken, and none of the blocks is bad by it.
func TestAppendCut(t *testing.T) {
	for _, keep := range []int{-1, 0, 1, 50, 96} {
		w := fresh(t, api.Faults{Cuts: []api.Cut{{At: 2, Keep: keep, Fill: 7}}})
		w.wantAppend("one", 0)
		w.wantRefused(data(6), "two", api.ErrOff)
		w.wantUnread(0, api.ErrOff)
		w.wantIs(0, api.BlockOpen)
		w.wantBads()
		w.chip.Power()
		w.wantRead(0, data(5), "one")
		if keep == 96 {
			w.wantRead(1, data(6), "two")
		} else {
			w.wantUnread(1, api.ErrForm)
		}
		w.wantAppend("three", 2)
		w.wantMarked(0, false)
	}
}

func TestAppendInABlockThatFails(t *testing.T) {
	for last := range 4 {
		w := fresh(t, api.Faults{Fails: []int{last + 1}})
		for p := range last {
			w.wantAppend(strconv.Itoa(p), p)
		}
		w.wantAppend("elsewhere", 4)
		w.wantIs(0, api.BlockBad)
		w.wantIs(1, api.BlockOpen)
		w.wantMarked(0, true)
		w.wantMarked(1, false)
		w.wantRead(4, data(5), "elsewhere")
		for p := range last {
			w.wantRead(p, data(5), strconv.Itoa(p))
		}
		w.wantUnread(last, api.ErrForm)
		if w.chip.Did() != last+3 { // the pages, the one that fails, the mark, the one elsewhere
			t.Error(last, w.chip.Did())
		}
		w.wantWorn(0, 0, 0, 0, 0, 0, 0, 0)
		w.wantBads(0)
		w.wantBads()
	}
}

// Blocks fail one behind the other, the least worn first, until none is left.
func TestAppendInBlocksThatFail(t *testing.T) {
	w := made(t, small, api.Faults{Bad: []int{0, 2, 3, 5}}, []int{4, 9, 0, 2, 8, 1, 7, 6})
	w.wantAppend("x", 28)
	w.wantBads(2, 5, 3, 0)
	w.wantBads()
	tag := data(5)
	tag.Worn = 6
	w.wantRead(28, tag, "x")

	all := made(t, small, api.Faults{Bad: []int{0, 1, 2, 3, 4, 5, 6, 7}}, make([]int, 8))
	all.wantRefused(data(1), "x", api.ErrFull)
	all.wantBads(0, 1, 2, 3, 4, 5, 6, 7)
	if all.life.Count(api.BlockBad) != 8 || all.chip.Did() != 16 {
		t.Error(all.chip.Did())
	}
	all.wantRefused(data(1), "x", api.ErrFull)
	all.wantBads()
}

// The power fails in the mark: that ends it; the block is bad, and noted.
func TestAppendCutInTheMark(t *testing.T) {
	for _, keep := range []int{-1, 0, 1, 9} {
		w := fresh(t, api.Faults{Fails: []int{2}, Cuts: []api.Cut{{At: 3, Keep: keep}}})
		w.wantAppend("one", 0)
		w.wantRefused(data(6), "two", api.ErrOff)
		if w.chip.Did() != 3 || !w.chip.Off() {
			t.Error(keep, w.chip.Did())
		}
		w.wantIs(0, api.BlockBad)
		w.wantIs(1, api.BlockFree)
		w.wantBads(0)
		w.chip.Power()
		w.wantMarked(0, keep > 0)
		w.wantUnread(4, api.ErrForm)
		w.wantAppend("two", 4)
	}
}

// A page that may not be written: its block is full, and not bad.
func TestAppendWhereItMayNotBeWritten(t *testing.T) {
	for _, behind := range []int{0, 1, 3} {
		w := fresh(t, api.Faults{})
		d, x, _ := page.Frame(data(9), "known", 64)
		if e := w.chip.Program(0, behind, d, x); e != api.OK {
			t.Fatal(e)
		}
		w.wantAppend("x", 4)
		w.wantIs(0, api.BlockFull)
		w.wantIs(1, api.BlockOpen)
		w.wantMarked(0, false)
		w.wantBads()
		w.wantRead(behind, data(9), "known")
		w.wantRead(4, data(5), "x")
		if w.chip.Did() != 2 {
			t.Error(w.chip.Did())
		}
	}
}

// Blocks with something in them are full one behind the other, until none is left.
func TestAppendWhereNothingMayBeWritten(t *testing.T) {
	w := fresh(t, api.Faults{})
	d, x, _ := page.Frame(data(9), "known", 64)
	for b := range 8 {
		w.chip.Program(b, 3, d, x)
	}
	w.wantRefused(data(1), "x", api.ErrFull)
	if w.life.Count(api.BlockFull) != 8 || w.chip.Did() != 8 {
		t.Error("full")
	}
	w.wantBads()
	w.wantErase(6, api.OK)
	w.wantAppend("x", 24)
}

// A block fails, the next may not be written, the third takes the page.
func TestAppendBothWays(t *testing.T) {
	w := fresh(t, api.Faults{Bad: []int{0}})
	d, x, _ := page.Frame(data(9), "known", 64)
	w.chip.Program(1, 2, d, x)
	w.wantAppend("x", 8)
	w.wantIs(0, api.BlockBad)
	w.wantIs(1, api.BlockFull)
	w.wantIs(2, api.BlockOpen)
	w.wantBads(0)
}

func TestErase(t *testing.T) {
	for b := range 8 {
		w := made(t, small, api.Faults{}, []int{10, 11, 12, 13, 14, 15, 16, 17})
		for at := range 32 {
			w.wantAppend("x", at)
		}
		w.wantErase(b, api.OK)
		w.wantIs(b, api.BlockFree)
		want := []int{10, 11, 12, 13, 14, 15, 16, 17}
		want[b]++
		w.wantWorn(want...)
		w.wantErase(b, api.OK) // one that is free already
		want[b]++
		w.wantWorn(want...)
		if w.life.Count(api.BlockFull) != 7 || w.chip.Did() != 34 || w.chip.Worn()[b] != 2 {
			t.Error(b)
		}
		for at := range 32 {
			if at/4 == b {
				w.wantUnread(at, api.ErrForm)
			} else {
				w.wantRead(at, api.Tag{Kind: 1, Seq: 5, Of: 1, Worn: 10 + at/4}, "x")
			}
		}
		w.wantBads()
		w.wantMarked(b, false)
	}
}

// The open block is free then, and written from its first page on.
func TestEraseTheOpenBlock(t *testing.T) {
	w := made(t, small, api.Faults{}, []int{0, 2, 2, 2, 2, 2, 2, 2})
	w.wantAppend("a", 0)
	w.wantAppend("b", 1)
	w.wantErase(0, api.OK)
	w.wantIs(0, api.BlockFree)
	if _, _, open := w.life.At(); open {
		t.Error("one is open")
	}
	w.wantAppend("c", 0)
	w.wantRead(0, api.Tag{Kind: 1, Seq: 5, Of: 1, Worn: 1}, "c")
	w.wantUnread(1, api.ErrForm)
}

func TestEraseNoSuchBlock(t *testing.T) {
	for _, g := range []api.Geometry{small, {Blocks: 32, Pages: 16, Size: 256}} {
		w := made(t, g, api.Faults{Cuts: []api.Cut{{At: 1}}}, make([]int, g.Blocks))
		none := []int{-1, g.Blocks, g.Blocks + 1, 1 << 32, -1 << 32, math.MinInt, math.MaxInt}
		for _, b := range none {
			w.wantErase(b, api.ErrInput)
		}
		if w.chip.Did() != 0 || w.life.Count(api.BlockFree) != g.Blocks {
			t.Error("something was done")
		}
		w.wantWorn(make([]int, g.Blocks)...)
		w.wantErase(0, api.ErrOff)
		for _, b := range none {
			w.wantErase(b, api.ErrInput)
		}
	}
}

func TestEraseThatFails(t *testing.T) {
	for b := range 8 {
		w := fresh(t, api.Faults{Fails: []int{3}})
		w.life.Open(b)
		w.wantAppend("a", b*4)
		w.wantAppend("b", b*4+1)
		w.wantErase(b, api.OK)
		w.wantIs(b, api.BlockBad)
		w.wantMarked(b, true)
		w.wantWorn(0, 0, 0, 0, 0, 0, 0, 0) // nothing was erased
		w.wantBads(b)
		w.wantBads()
		w.wantRead(b*4, data(5), "a")
		w.wantRead(b*4+1, data(5), "b")
		if w.chip.Did() != 4 || w.life.Count(api.BlockBad) != 1 {
			t.Error(b, w.chip.Did())
		}
	}
}

// A block that failed is bad for good, but may fail again: it is noted again, and told once.
func TestEraseOfWhatFailed(t *testing.T) {
	w := fresh(t, api.Faults{Bad: []int{0}})
	w.wantAppend("a", 4)
	w.wantErase(0, api.OK)
	w.wantErase(0, api.OK)
	w.wantBads(0)
	w.wantErase(0, api.OK)
	w.wantBads(0)
	w.wantBads()
	w.wantIs(0, api.BlockBad)
	w.wantWorn(0, 0, 0, 0, 0, 0, 0, 0)
}

// Who has the life may let a block be bad that does not fail: erasing it does not make it free.
func TestEraseOfWhatIsBad(t *testing.T) {
	w := fresh(t, api.Faults{})
	w.life.Bad(0)
	w.wantErase(0, api.OK)
	w.wantIs(0, api.BlockBad)
	w.wantWorn(1, 0, 0, 0, 0, 0, 0, 0)
	w.wantBads()
	w.wantMarked(0, false)
	w.wantAppend("x", 4)
}

func TestEraseCut(t *testing.T) {
	for keep := -1; keep <= 5; keep++ {
		w := fresh(t, api.Faults{Cuts: []api.Cut{{At: 5, Keep: keep, Fill: 3}}})
		for p := range 4 {
			w.wantAppend("x", p)
		}
		w.wantErase(0, api.ErrOff)
		w.wantIs(0, api.BlockFull)
		w.wantWorn(0, 0, 0, 0, 0, 0, 0, 0)
		w.wantBads()
		w.wantErase(0, api.ErrOff)
		w.wantErase(1, api.ErrOff)
		w.chip.Power()
		w.wantMarked(0, false)
		w.wantErase(0, api.OK)
		w.wantIs(0, api.BlockFree)
		w.wantWorn(1, 0, 0, 0, 0, 0, 0, 0)
	}
}

func TestEraseCutInTheMark(t *testing.T) {
	for _, keep := range []int{-1, 0, 1} {
		w := fresh(t, api.Faults{Fails: []int{1}, Cuts: []api.Cut{{At: 2, Keep: keep}}})
		w.wantErase(3, api.ErrOff)
		w.wantIs(3, api.BlockBad)
		w.wantBads(3)
		w.chip.Power()
		w.wantMarked(3, keep > 0)
	}
}

func TestReadAddress(t *testing.T) {
	for _, g := range []api.Geometry{small, {Blocks: 9, Pages: 5, Size: 65}} {
		w := made(t, g, api.Faults{Cuts: []api.Cut{{At: 1}}}, make([]int, g.Blocks))
		n := g.Blocks * g.Pages
		none := []int{-1, -2, -g.Pages, -g.Pages - 1, n, n + 1, 1 << 32, -1 << 32, math.MinInt, math.MaxInt}
		for _, at := range none {
			w.wantUnread(at, api.ErrAddress)
		}
		for at := range n {
			w.wantUnread(at, api.ErrForm) // erased
		}
		w.wantErase(0, api.ErrOff)
		for _, at := range append(none, 0, n-1) {
			w.wantUnread(at, api.ErrOff)
		}
	}
}

func TestReadOfWhatIsNotValid(t *testing.T) {
	w := fresh(t, api.Faults{})
	d, x, _ := page.Frame(data(9), "known", 64)
	w.chip.Program(1, 2, d, x)
	w.wantRead(6, data(9), "known")
	w.chip.Program(1, 3, "K"+d[1:], x)
	w.wantUnread(7, api.ErrForm)
	w.chip.Program(2, 0, d, x[1:]+"\x00")
	w.wantUnread(8, api.ErrForm)
	w.chip.Program(3, 1, strings.Repeat("\x00", 64), strings.Repeat("\x00", 32))
	w.wantUnread(13, api.ErrForm)
	w.wantUnread(12, api.ErrForm)
}

// Reading is no action, and takes no page.
func TestReadChangesNothing(t *testing.T) {
	w := fresh(t, api.Faults{})
	w.wantAppend("x", 0)
	for range 3 {
		w.wantRead(0, data(5), "x")
		w.wantUnread(1, api.ErrForm)
		w.wantUnread(99, api.ErrAddress)
	}
	if w.chip.Did() != 1 {
		t.Error(w.chip.Did())
	}
	w.wantAppend("y", 1)
}

// In the order in which they were noted, by both ways of noting.
func TestBads(t *testing.T) {
	w := made(t, small, api.Faults{Bad: []int{1, 4, 6}}, []int{1, 1, 1, 1, 1, 1, 0, 1})
	w.wantBads()
	w.wantErase(4, api.OK)
	w.wantErase(1, api.OK)
	w.wantAppend("x", 0)
	w.wantBads(4, 1, 6)
	w.wantBads()
	w.wantErase(1, api.OK)
	w.wantBads(1)
}

// What others let be bad is not noted.
func TestBadsOfOthers(t *testing.T) {
	w := fresh(t, api.Faults{})
	w.life.Bad(0)
	w.chip.Mark(1)
	w.wantBads()
	w.wantAppend("x", 4)
	w.wantBads()
}

func TestWears(t *testing.T) {
	w := made(t, small, api.Faults{}, []int{10, 11, 12, 13, 14, 15, 16, 17})
	w.life.Open(3)
	w.life.Full(1)
	w.life.Full(6)
	w.life.Bad(2)
	for name, x := range map[string]struct {
		what []int
		want []int
	}{
		"none":      {nil, nil},
		"free":      {[]int{0}, []int{0, 4, 5, 7}},
		"open":      {[]int{1}, []int{3}},
		"full":      {[]int{2}, []int{1, 6}},
		"bad":       {[]int{3}, []int{2}},
		"two":       {[]int{2, 1}, []int{1, 3, 6}},
		"one twice": {[]int{2, 2}, []int{1, 6}},
		"all":       {[]int{3, 2, 1, 0}, []int{0, 1, 2, 3, 4, 5, 6, 7}},
		"nothing":   {[]int{4, 5, math.MaxInt, math.MinInt}, nil},
		"some":      {[]int{4, 3}, []int{2}},
	} {
		var want []api.Wear
		for _, b := range x.want {
			want = append(want, api.Wear{Block: b, N: 10 + b})
		}
		if got := w.Wears(x.what...); !slices.Equal(got, want) {
			t.Error(name, got)
		}
	}
	w.wantErase(6, api.OK)
	if got := w.Wears(api.BlockFull); !slices.Equal(got, []api.Wear{{Block: 1, N: 11}}) {
		t.Error(got)
	}
	if got := w.Wears(api.BlockFree); !slices.Contains(got, api.Wear{Block: 6, N: 17}) || len(got) != 5 {
		t.Error(got)
	}
}

// The life is the thing itself, and so is the chip.
func TestLifeIsItself(t *testing.T) {
	w := fresh(t, api.Faults{})
	if w.Life() != w.life {
		t.Fatal("another one")
	}
	w.Life().Open(5)
	w.wantAppend("x", 20)
	w.Life().Full(5)
	w.wantAppend("y", 0)
	w.chip.Erase(5)
	w.wantUnread(20, api.ErrForm)
	w.wantWorn(0, 0, 0, 0, 0, 0, 0, 0) // it does not know of that
}

// Counts that were handed in, and what is answered, are not the writer's own.
func TestOwn(t *testing.T) {
	worn := []int{3, 2, 3, 3, 3, 3, 3, 3}
	w := made(t, small, api.Faults{Bad: []int{1, 2, 3}}, worn)
	worn[0] = 0
	w.wantWorn(3, 2, 3, 3, 3, 3, 3, 3)
	told := w.Worn()
	told[5] = 0
	w.wantWorn(3, 2, 3, 3, 3, 3, 3, 3)
	what := []int{2, 0}
	wears := w.Wears(what...)
	wears[0].N = 99
	if what[0] != 2 || what[1] != 0 {
		t.Error("changed")
	}
	w.wantAppend("x", 0)
	w.wantErase(0, api.OK)
	if worn[0] != 0 || told[0] != 3 {
		t.Error("changed")
	}
	bads := w.Bads()
	if !slices.Equal(bads, []int{1}) {
		t.Fatal(bads)
	}
	bads[0] = 9
	w.wantErase(2, api.OK)
	w.wantErase(3, api.OK)
	if bads[0] != 9 {
		t.Error("changed")
	}
	w.wantBads(2, 3)
}

func TestNil(t *testing.T) {
	var w *Writer
	if w.Life() != nil || w.Worn() != nil || w.Bads() != nil || w.Wears(0, 1, 2, 3) != nil || w.Wears() != nil {
		t.Error("something")
	}
	for _, n := range []int{-1, 0, 1, 31, math.MinInt, math.MaxInt} {
		if e := w.Erase(n); e != api.ErrInput {
			t.Error(n, e)
		}
		if tag, s, e := w.Read(n); e != api.ErrInput || tag != (api.Tag{}) || s != "" {
			t.Error(n, e)
		}
	}
	for _, tag := range []api.Tag{{}, data(1)} {
		if at, e := w.Append(tag, "x"); e != api.ErrInput || at != 0 {
			t.Error(e)
		}
	}
}

// What New did not make, and what it was made of things that nothing made, does not panic.
func TestZero(t *testing.T) {
	l, _ := life.New(8, 4)
	l.Open(3)
	odd, e := New(new(nand.Chip), l, nil)
	if e != api.OK {
		t.Fatal(e)
	}
	for _, w := range []*Writer{new(Writer), odd} {
		for _, n := range []int{-1, 0, 1, 31, math.MinInt, math.MaxInt} {
			if e := w.Erase(n); e != api.ErrInput {
				t.Error(n, e)
			}
			if _, _, e := w.Read(n); e == api.OK {
				t.Error(n, e)
			}
		}
		for range 9 {
			if at, e := w.Append(data(1), ""); e == api.OK || at != 0 {
				t.Error(at, e)
			}
		}
		if len(w.Worn()) != 0 || len(w.Wears(0, 1, 2, 3)) != 0 || len(w.Bads()) != 0 {
			t.Error("something")
		}
	}
}

// A life with other blocks than the chip has: what the chip refuses is told, and nothing panics.
func TestOtherLives(t *testing.T) {
	for _, x := range []struct{ blocks, pages int }{{1, 1}, {7, 4}, {9, 4}, {32, 16}, {8, 5}, {8, 3}} {
		for open := range x.blocks {
			c, _ := nand.New(small, api.Faults{})
			l, _ := life.New(x.blocks, x.pages)
			w, e := New(c, l, make([]int, 8))
			if e != api.OK {
				t.Fatal(e)
			}
			l.Open(open)
			var last api.Errno
			for range x.blocks*x.pages + 1 {
				at, e := w.Append(data(1), "x")
				switch {
				case e == api.OK && (at < 0 || at >= 32):
					t.Error(x, open, at)
				case e != api.OK && (at != 0 || e != api.ErrAddress && e != api.ErrFull):
					t.Error(x, open, at, e)
				}
				last = e
			}
			if last != api.ErrFull {
				t.Error(x, open, last)
			}
		}
	}
}

// Counts that no tag may have are told as an error, and the greatest that one may have is written.
func TestCountsOfNoTag(t *testing.T) {
	most := math.MaxUint32
	w := made(t, small, api.Faults{}, []int{most, most, most, most, most, most, most, most})
	w.wantAppend("x", 0)
	w.wantRead(0, api.Tag{Kind: 1, Seq: 5, Of: 1, Worn: most}, "x")
	for _, n := range []int{-1, most + 1, math.MaxInt, math.MinInt} {
		w := made(t, small, api.Faults{}, []int{n, n, n, n, n, n, n, n})
		w.wantRefused(data(1), "x", api.ErrInput)
		w.wantUnread(0, api.ErrForm)
		w.wantBads()
	}
}

// beside holds a writer against a plain one, through one call.
func (w bench) beside(p *plain, rnd *rand.Rand) {
	w.t.Helper()
	g := p.g
	switch x := rnd.Intn(20); {
	case x < 11:
		tag := api.Tag{Kind: rnd.Intn(4), Seq: rnd.Uint64(), Index: rnd.Intn(2), Of: 1 + rnd.Intn(3), Worn: rnd.Intn(9) - 4}
		s := strings.Repeat(string(rune('a'+rnd.Intn(26))), rnd.Intn(g.Size+2))
		at, e := w.Append(tag, s)
		if wantAt, want := p.write(tag, s); at != wantAt || e != want {
			w.t.Fatal("written", at, e, "want", wantAt, want)
		}
	case x < 16:
		b := rnd.Intn(g.Blocks+2) - 1
		if e, want := w.Erase(b), p.erase(b); e != want {
			w.t.Fatal("erased", b, e, "want", want)
		}
	case x < 17:
		if got, want := w.Bads(), p.tell(); !slices.Equal(got, want) {
			w.t.Fatal("bads", got, want)
		}
	case x < 18:
		what := []int{rnd.Intn(5), rnd.Intn(5), rnd.Intn(5)}[:rnd.Intn(4)]
		if got, want := w.Wears(what...), p.wears(what...); !slices.Equal(got, want) {
			w.t.Fatal("wears", what, got, want)
		}
	case x < 19:
		// Whoever else has the chip writes a page, behind which none may be written then.
		d, spare, _ := page.Frame(data(1), "other", g.Size)
		b, n := rnd.Intn(g.Blocks), rnd.Intn(g.Pages)
		w.chip.Program(b, n, d, spare)
		p.chip.Program(b, n, d, spare)
	default:
		w.chip.Power()
		p.chip.Power()
	}
}

func (w bench) same(p *plain) {
	w.t.Helper()
	for at := -1; at <= p.g.Blocks*p.g.Pages; at++ {
		tag, s, e := w.Read(at)
		if wantTag, wantS, want := p.read(at); tag != wantTag || s != wantS || e != want {
			w.t.Fatal("read", at, e, want)
		}
	}
	for b := range p.g.Blocks {
		w.wantIs(b, p.is[b])
		m, e := w.chip.Marked(b)
		if pm, pe := p.chip.Marked(b); m != pm || e != pe {
			w.t.Fatal("marked", b)
		}
	}
	if b, n, open := w.life.At(); open != (p.open() >= 0) || open && (b != p.open() || n != p.next) {
		w.t.Fatal("at", b, n, open)
	}
	w.wantWorn(p.worn...)
	if w.chip.Did() != p.chip.Did() || w.chip.Off() != p.chip.Off() {
		w.t.Fatal("did", w.chip.Did(), p.chip.Did())
	}
}

func TestRunsBesideAPlainOne(t *testing.T) {
	rnd := rand.New(rand.NewSource(13))
	for range 400 {
		g := api.Geometry{Blocks: 8 + rnd.Intn(5), Pages: 4 + rnd.Intn(3), Size: 64 + rnd.Intn(9)}
		var f api.Faults
		for range rnd.Intn(6) {
			f.Fails = append(f.Fails, rnd.Intn(80))
		}
		for range rnd.Intn(4) {
			f.Cuts = append(f.Cuts, api.Cut{At: rnd.Intn(80), Keep: rnd.Intn(120) - 1, Fill: byte(rnd.Intn(256))})
		}
		for range rnd.Intn(3) {
			f.Bad = append(f.Bad, rnd.Intn(g.Blocks))
		}
		worn := make([]int, g.Blocks)
		for b := range worn {
			worn[b] = rnd.Intn(4)
		}
		w, p := made(t, g, f, worn), newPlain(g, f, worn)
		for range 120 {
			w.beside(p, rnd)
			w.same(p)
		}
	}
}
