package life

import (
	"math"
	"math/rand"
	"testing"

	"tinderbox/api"
)

// far is numbers that no block has, whatever the blocks are.
var far = []int{-1, -2, 32, 33, math.MinInt, math.MaxInt, 1 << 32, -1 << 32}

func made(t *testing.T, blocks, pages int) *Life {
	t.Helper()
	l, e := New(blocks, pages)
	if e != api.OK || l == nil {
		t.Fatal(blocks, pages, e)
	}
	return l
}

func wantAt(t *testing.T, l *Life, b, page int) {
	t.Helper()
	if ab, ap, is := l.At(); !is || ab != b || ap != page {
		t.Fatal("at", ab, ap, is, "want", b, page)
	}
}

func wantTaken(t *testing.T, l *Life, b, page int) {
	t.Helper()
	if tb, tp, is := l.Take(); !is || tb != b || tp != page {
		t.Fatal("taken", tb, tp, is, "want", b, page)
	}
}

// wantNoneOpen asks all calls that tell of an open block.
func wantNoneOpen(t *testing.T, l *Life) {
	t.Helper()
	before := see(l)
	if b, p, is := l.At(); is || b != 0 || p != 0 {
		t.Fatal("at", b, p, is)
	}
	if b, p, is := l.Take(); is || b != 0 || p != 0 {
		t.Fatal("taken", b, p, is)
	}
	if l.Count(api.BlockOpen) != 0 {
		t.Fatal("one is counted")
	}
	if see(l) != before {
		t.Fatal("something changed")
	}
}

func wantIs(t *testing.T, l *Life, what ...int) {
	t.Helper()
	for b, w := range what {
		if l.Is(b) != w {
			t.Fatal("block", b, "is", l.Is(b), "want", w)
		}
	}
	for _, w := range []int{0, 1, 2, 3} {
		n := 0
		for _, is := range what {
			if is == w {
				n++
			}
		}
		if l.Count(w) != n {
			t.Fatal("of", w, "there are", l.Count(w), "want", n)
		}
	}
}

func TestWhatBlocksAre(t *testing.T) {
	if api.BlockFree != 0 || api.BlockOpen != 1 || api.BlockFull != 2 || api.BlockBad != 3 {
		t.Error("numbers")
	}
	l := made(t, 4, 2)
	wantIs(t, l, 0, 0, 0, 0)
	l.Open(1)
	l.Full(2)
	l.Bad(3)
	wantIs(t, l, 0, 1, 2, 3)
}

func TestNew(t *testing.T) {
	for blocks := 1; blocks <= 32; blocks++ {
		for pages := 1; pages <= 16; pages++ {
			l := made(t, blocks, pages)
			if see(l) != newPlain(blocks, pages).see() {
				t.Error(blocks, pages)
			}
			if l.Is(blocks) != -1 || l.Is(blocks-1) != 0 || l.Count(0) != blocks || l.Room() != blocks*pages {
				t.Error(blocks, pages)
			}
		}
	}
}

func TestNewOfWhatMayNotBe(t *testing.T) {
	wrongBlocks := []int{0, -1, 33, 34, math.MinInt, math.MaxInt, 1<<32 + 1}
	wrongPages := []int{0, -1, 17, 18, math.MinInt, math.MaxInt, 1<<32 + 1}
	refused := func(blocks, pages int) {
		t.Helper()
		if l, e := New(blocks, pages); e != api.ErrInput || l != nil {
			t.Error(blocks, pages, e)
		}
	}
	for _, blocks := range wrongBlocks {
		for _, pages := range append([]int{1, 4, 16}, wrongPages...) {
			refused(blocks, pages)
		}
	}
	for _, pages := range wrongPages {
		for _, blocks := range []int{1, 8, 32} {
			refused(blocks, pages)
		}
	}
}

func TestNoSuchBlock(t *testing.T) {
	for _, blocks := range []int{1, 3, 32} {
		l := made(t, blocks, 2)
		l.Open(0)
		before := see(l)
		none := append([]int{blocks, blocks + 1}, far...)
		for _, b := range none {
			if l.Is(b) != -1 {
				t.Error("is", b)
			}
			if l.Open(b) || l.Full(b) || l.Free(b) || l.Bad(b) {
				t.Error("true of", b)
			}
		}
		if see(l) != before {
			t.Error("something changed")
		}
		l.Free(0)
		for _, b := range none {
			if l.Open(b) {
				t.Error("opened", b)
			}
		}
		wantNoneOpen(t, l)
	}
}

func TestOpen(t *testing.T) {
	for b := range 32 {
		l := made(t, 32, 3)
		if !l.Open(b) || l.Is(b) != 1 || l.Count(1) != 1 || l.Count(0) != 31 || l.Room() != 96 {
			t.Error(b)
		}
		wantAt(t, l, b, 0)
		before := see(l)
		for other := range 32 {
			if l.Open(other) {
				t.Error("opened beside", b, other)
			}
		}
		if see(l) != before {
			t.Error("something changed")
		}
	}
}

func TestOpenOfWhatIsNotFree(t *testing.T) {
	l := made(t, 3, 2)
	l.Full(0)
	l.Bad(1)
	if l.Open(0) || l.Open(1) {
		t.Error("opened")
	}
	wantIs(t, l, 2, 3, 0)
	wantNoneOpen(t, l)
	if !l.Open(2) {
		t.Error("the free one")
	}
}

func TestTake(t *testing.T) {
	for pages := 1; pages <= 16; pages++ {
		l := made(t, 3, pages)
		wantNoneOpen(t, l)
		l.Open(2)
		for p := range pages {
			wantAt(t, l, 2, p)
			if l.Is(2) != 1 || l.Room() != 3*pages-p || l.Open(1) {
				t.Fatal(pages, p)
			}
			wantTaken(t, l, 2, p)
		}
		wantIs(t, l, 0, 0, 2)
		wantNoneOpen(t, l)
		if l.Room() != 2*pages || !l.Open(0) {
			t.Error(pages)
		}
		wantAt(t, l, 0, 0)
		wantTaken(t, l, 0, 0)
	}
}

// Whatever the open block becomes, it is open no more, and what is opened next begins with its first page.
func TestOpenNoMore(t *testing.T) {
	for _, w := range []struct {
		let  func(*Life, int) bool
		is   int
		room int
	}{{(*Life).Full, 2, 4}, {(*Life).Free, 0, 8}, {(*Life).Bad, 3, 4}} {
		for taken := range 4 {
			l := made(t, 2, 4)
			l.Open(1)
			for p := range taken {
				wantTaken(t, l, 1, p)
			}
			if !w.let(l, 1) {
				t.Fatal("false", w.is)
			}
			wantIs(t, l, 0, w.is)
			wantNoneOpen(t, l)
			if l.Room() != w.room {
				t.Error("room", l.Room(), "want", w.room)
			}
			if !l.Open(0) {
				t.Fatal("one is open yet")
			}
			wantTaken(t, l, 0, 0)
			l.Full(0)
			if l.Open(1) != (w.is == 0) {
				t.Error("opened again", w.is)
			}
			if w.is == 0 {
				wantTaken(t, l, 1, 0)
			}
		}
	}
}

func TestOthersLeaveTheOpenOne(t *testing.T) {
	l := made(t, 4, 4)
	l.Open(1)
	l.Take()
	for _, let := range []func(int) bool{l.Full, l.Free, l.Full, l.Free, l.Bad} {
		if !let(0) || !let(3) {
			t.Error("false")
		}
		wantAt(t, l, 1, 1)
	}
	wantIs(t, l, 3, 1, 0, 3)
	wantTaken(t, l, 1, 1)
}

// The chapter tells false of a block that is bad or not there alone: what it is already, a block may be let be.
func TestFromEachToEach(t *testing.T) {
	from := []func(*Life){func(*Life) {}, func(l *Life) { l.Open(1) }, func(l *Life) { l.Full(1) }}
	to := []func(*Life, int) bool{(*Life).Free, nil, (*Life).Full, (*Life).Bad}
	for was, lay := range from {
		for will, let := range to {
			if let == nil {
				continue
			}
			l := made(t, 3, 2)
			lay(l)
			wantIs(t, l, 0, was, 0)
			if !let(l, 1) {
				t.Error("false", was, will)
			}
			wantIs(t, l, 0, will, 0)
		}
	}
}

func TestBadForGood(t *testing.T) {
	l := made(t, 2, 3)
	if !l.Bad(0) {
		t.Fatal("false")
	}
	before := see(l)
	for range 2 {
		if l.Bad(0) || l.Free(0) || l.Full(0) || l.Open(0) {
			t.Error("true")
		}
		if see(l) != before {
			t.Fatal("something changed")
		}
	}
	wantIs(t, l, 3, 0)
	if l.Room() != 3 || !l.Bad(1) || l.Room() != 0 || l.Count(3) != 2 {
		t.Error("both")
	}
}

func TestRoom(t *testing.T) {
	l := made(t, 32, 16)
	if l.Room() != 512 {
		t.Error(l.Room())
	}
	for i := range 512 {
		if i%16 == 0 && !l.Open(31-i/16) {
			t.Fatal("open", i)
		}
		wantTaken(t, l, 31-i/16, i%16)
		if l.Room() != 511-i {
			t.Fatal(i, l.Room())
		}
	}
	wantNoneOpen(t, l)
	if l.Count(2) != 32 || !l.Free(7) || l.Room() != 16 {
		t.Error("free again", l.Room())
	}
}

func TestCountOfNothing(t *testing.T) {
	l := made(t, 4, 2)
	l.Open(1)
	l.Full(2)
	l.Bad(3)
	for _, what := range []int{-1, 4, 5, math.MinInt, math.MaxInt, 1 << 32} {
		if l.Count(what) != 0 {
			t.Error(what, l.Count(what))
		}
	}
}

// none asks all calls of blocks of which there are none.
func none(t *testing.T, l *Life) {
	t.Helper()
	for _, b := range append([]int{0, 1, 31}, far...) {
		if l.Is(b) != -1 || l.Open(b) || l.Full(b) || l.Free(b) || l.Bad(b) || l.Count(b) != 0 {
			t.Error(b)
		}
	}
	if l.Room() != 0 || l.Count(2) != 0 || l.Count(3) != 0 {
		t.Error("something is there")
	}
	wantNoneOpen(t, l)
}

func TestNil(t *testing.T) { none(t, nil) }

// What New did not make has no blocks.
func TestZero(t *testing.T) { none(t, new(Life)) }

func TestEachItsOwn(t *testing.T) {
	a, b := made(t, 2, 2), made(t, 2, 2)
	before := see(b)
	a.Open(0)
	a.Take()
	a.Bad(1)
	if see(b) != before {
		t.Error("another one changed")
	}
}

func TestExample(t *testing.T) {
	if l := made(t, 2, 4); l.Room() != 8 {
		t.Error(l.Room())
	}
}

// each is all calls on so many blocks, with one block before and one behind them.
func each(blocks int) []call {
	all := []call{{kind: 1}}
	for _, kind := range []int{0, 2, 3, 4} {
		for b := -1; b <= blocks; b++ {
			all = append(all, call{kind, b})
		}
	}
	return all
}

func beside(t *testing.T, l *Life, p *plain, calls []call) {
	t.Helper()
	for i, c := range calls {
		if got, want := do(l, c), p.do(c); got != want {
			t.Fatal(calls[:i+1], got, want)
		}
		if got, want := see(l), p.see(); got != want {
			t.Fatal(calls[:i+1], got, want)
		}
	}
}

// All runs of four calls on two blocks of two pages.
func TestAllShortRuns(t *testing.T) {
	all := each(2)
	for _, a := range all {
		for _, b := range all {
			for _, c := range all {
				for _, d := range all {
					beside(t, made(t, 2, 2), newPlain(2, 2), []call{a, b, c, d})
				}
			}
		}
	}
}

func TestRunsBesideAPlainOne(t *testing.T) {
	rnd := rand.New(rand.NewSource(10))
	kinds := []int{0, 0, 0, 0, 0, 0, 1, 1, 1, 1, 1, 1, 1, 1, 1, 1, 2, 3, 3, 3}
	for range 300 {
		blocks, pages := rnd.Intn(32)+1, rnd.Intn(16)+1
		var calls []call
		for range 200 {
			c := call{kind: kinds[rnd.Intn(len(kinds))], b: rnd.Intn(blocks+2) - 1}
			if rnd.Intn(40) == 0 {
				c.kind = 4
			}
			if c.kind == 1 {
				c.b = 0
			}
			calls = append(calls, c)
		}
		beside(t, made(t, blocks, pages), newPlain(blocks, pages), calls)
	}
}
