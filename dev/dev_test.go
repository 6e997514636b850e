package dev

import (
	"math"
	"slices"
	"strings"
	"testing"

	"tinderbox/api"
	"tinderbox/ckpt"
	"tinderbox/ftl"
	"tinderbox/life"
	"tinderbox/nand"
	"tinderbox/txn"
	"tinderbox/write"
)

// chips are chips of all kinds, each made anew by its function.
func chips(t *testing.T) map[string]func() *nand.Chip {
	made := func(g api.Geometry, f api.Faults) func() *nand.Chip {
		return func() *nand.Chip { return newChip(t, g, f) }
	}
	after := func(f api.Faults, do func(*nand.Chip)) func() *nand.Chip {
		return func() *nand.Chip {
			c := newChip(t, usual, api.Faults{Bad: f.Bad})
			do(c)
			c.Arm(f)
			return c
		}
	}
	l := map[string]func() *nand.Chip{
		"nil":           func() *nand.Chip { return nil },
		"none":          func() *nand.Chip { return &nand.Chip{} },
		"without room":  made(api.Geometry{Blocks: 8, Pages: 4, Size: 64}, api.Faults{}),
		"blank":         made(usual, api.Faults{}),
		"two bad":       made(usual, api.Faults{Bad: []int{0, 7}}),
		"three bad":     made(usual, api.Faults{Bad: []int{0, 7, 9}}),
		"two fail":      made(usual, api.Faults{Fails: []int{2, 5}}),
		"three fail":    made(usual, api.Faults{Fails: []int{2, 5, 9}}),
		"written":       after(api.Faults{}, written),
		"two bad, too":  after(api.Faults{Bad: []int{3, 4}}, written),
		"a mark lacks":  after(api.Faults{}, lacking),
		"it can't be":   after(api.Faults{Cuts: []api.Cut{{At: 1}}}, lacking),
		"without power": after(api.Faults{}, unpowered),
		"too much":      after(api.Faults{}, func(c *nand.Chip) { written(c); c.Mark(1); c.Mark(2); c.Mark(3) }),
	}
	for _, at := range []int{1, 9, 16, 17, 18} {
		l["cut at "+string(rune('a'+at))] = after(api.Faults{Cuts: []api.Cut{{At: at, Keep: 3}}}, written)
	}
	return l
}

// written lets something stand on a chip.
func written(c *nand.Chip) {
	f, _ := ftl.Format(c)
	f.Commit([]api.Change{{Record: mk(1, 4)}, {Record: api.Record{Kind: api.RecPut, Space: 1}, Text: "zero"}})
	f.Commit([]api.Change{{Record: api.Record{Kind: api.RecPut, Space: 1, Page: 1}, Text: "one"}})
}

// lacking lets a record say that a block is bad, which is not marked.
func lacking(c *nand.Chip) {
	l, _ := life.New(usual.Blocks, usual.Pages)
	w, _ := write.New(c, l, make([]int, usual.Blocks))
	ckpt.Write(w, []api.Record{{Kind: api.RecBad, At: 5}}, api.PageCheck, 1, usual.Size)
}

// unpowered takes the power away.
func unpowered(c *nand.Chip) {
	written(c)
	takePower(c)
}

// takePower takes the power away in an action that changes nothing.
func takePower(c *nand.Chip) {
	c.Arm(api.Faults{Cuts: []api.Cut{{At: 1}}})
	c.Mark(0)
}

// pages is all that stands on a chip.
func pages(c *nand.Chip) []string {
	var l []string
	g := c.Geometry()
	c.Power()
	for b := range g.Blocks {
		mark, _ := c.Marked(b)
		if mark {
			l = append(l, "marked")
		}
		for p := range g.Pages {
			data, spare, _ := c.Read(b, p)
			l = append(l, data+spare)
		}
	}
	return l
}

// TestAsTheFTL: Format and Mount answer and do what those of ftl do.
func TestAsTheFTL(t *testing.T) {
	type begin struct {
		dev func(*nand.Chip) (*Dev, api.Errno)
		ftl func(*nand.Chip) (*ftl.FTL, api.Errno)
	}
	told := map[api.Errno]int{}
	for what, x := range map[string]begin{"format": {Format, ftl.Format}, "mount": {Mount, ftl.Mount}} {
		for name, made := range chips(t) {
			c, k := made(), made()
			d, got := x.dev(c)
			f, want := x.ftl(k)
			told[want]++
			if got != want || (d == nil) != (want != api.OK) {
				t.Error(what, name, got, "want", want, "nil", d == nil)
				continue
			}
			if c.Did() != k.Did() || c.Off() != k.Off() || !slices.Equal(pages(c), pages(k)) {
				t.Error(what, name, "does something else")
			}
			if want != api.OK {
				continue
			}
			if d.Busy() || d.FTL() == nil || !slices.Equal(d.FTL().State().Dump(), f.State().Dump()) || !slices.Equal(d.Spaces(), f.State().Spaces()) {
				t.Error(what, name, "has something else")
			}
		}
	}
	for _, e := range []api.Errno{api.OK, api.ErrInput, api.ErrOff, api.ErrBlank, api.ErrWorn} {
		if told[e] == 0 {
			t.Error("no chip was told as", e)
		}
	}
}

func TestFormatForgetsAndMountFinds(t *testing.T) {
	c := newChip(t, usual, api.Faults{})
	written(c)
	d, e := Mount(c)
	mustBe(t, "mount", e, api.OK)
	for page, want := range []string{"zero", "one"} {
		if s, e := d.Get(1, page); s != want || e != api.OK {
			t.Error(page, s, e)
		}
	}
	d, e = Format(c)
	mustBe(t, "format", e, api.OK)
	if s, e := d.Get(1, 0); s != "" || e != api.ErrNone || len(d.Spaces()) != 0 {
		t.Error(s, e, d.Spaces())
	}
	d, e = Mount(c)
	mustBe(t, "mount", e, api.OK)
	if _, e := d.Get(1, 0); e != api.ErrNone || len(d.Spaces()) != 0 {
		t.Error(e, d.Spaces())
	}
}

// filled is a device with space 1 of four pages, of which 0 and 1 are there, and with space 2, which is sealed and has one.
func filled(t *testing.T, bad ...int) *bench {
	t.Helper()
	b := newBench(t, usual, bad...)
	b.did(b.does(mk(1, 4)), b.puts(1, 0, "zero"), b.puts(1, 1, "one"), b.does(mk(2, 1)), b.puts(2, 0, "sealed"), b.does(seal(2)))
	b.wantSame()
	return b
}

func TestBeginOnce(t *testing.T) {
	b := filled(t)
	for range 2 {
		if b.Busy() {
			t.Error("a transaction is open ahead of any")
		}
		mustBe(t, "begin", b.wantBegin(), api.OK)
		mustBe(t, "put", b.wantPut(1, 0, "two"), api.OK)
		mustBe(t, "begin", b.wantBegin(), api.ErrOpen)
		// It is the one that was open, still.
		b.wantSame()
		mustBe(t, "commit", b.wantCommit(), api.OK)
		mustBe(t, "begin", b.wantBegin(), api.OK)
		mustBe(t, "begin", b.wantBegin(), api.ErrOpen)
		mustBe(t, "abort", b.wantAbort(), api.OK)
		b.wantSame()
	}
}

// TestNoneIsOpen: whatever is handed in, that none is open is told first.
func TestNoneIsOpen(t *testing.T) {
	b := filled(t)
	long := strings.Repeat("x", usual.Size+1)
	ask := func() {
		t.Helper()
		did := b.chip.Did()
		mustBe(t, "put", b.wantPut(1, 0, "x"), api.ErrOpen)
		mustBe(t, "put of what is too long", b.wantPut(1, 0, long), api.ErrOpen)
		mustBe(t, "put into no space", b.wantPut(-1, -1, ""), api.ErrOpen)
		mustBe(t, "put into a sealed one", b.wantPut(2, 0, ""), api.ErrOpen)
		mustBe(t, "do", b.wantDo(mk(3, 1)), api.ErrOpen)
		mustBe(t, "do of nothing", b.wantDo(api.Record{}), api.ErrOpen)
		mustBe(t, "do of what is refused", b.wantDo(drop(9)), api.ErrOpen)
		mustBe(t, "commit", b.wantCommit(), api.ErrOpen)
		mustBe(t, "abort", b.wantAbort(), api.ErrOpen)
		b.wantSame()
		if b.chip.Did() != did {
			t.Error("something was done")
		}
	}
	ask()
	b.did(b.puts(1, 0, "two"))
	ask()
	b.wantBegin()
	b.wantAbort()
	ask()
	b.wantBegin()
	b.wantMount()
	ask()
}

// TestRefusedAsByTransactions: each error of Put and Do, which changes nothing; the transaction stays open.
func TestRefusedAsByTransactions(t *testing.T) {
	b := filled(t)
	b.wantBegin()
	b.wantPut(1, 2, "two")
	long := strings.Repeat("x", usual.Size)
	refused := func(what string, got, want api.Errno) {
		t.Helper()
		mustBe(t, what, got, want)
		b.wantSame()
	}
	refused("long", b.wantPut(1, 0, long+"x"), api.ErrLong)
	refused("long, no space", b.wantPut(3, 0, long+"x"), api.ErrLong)
	refused("no space", b.wantPut(3, 0, ""), api.ErrSpace)
	refused("no number of one", b.wantPut(16, 0, ""), api.ErrSpace)
	refused("sealed", b.wantPut(2, 9, ""), api.ErrSealed)
	refused("no page", b.wantPut(1, 4, ""), api.ErrPage)
	refused("no page", b.wantPut(1, -1, ""), api.ErrPage)
	refused("no page", b.wantPut(1, math.MaxInt, ""), api.ErrPage)
	for _, r := range []api.Record{
		{}, {Kind: api.RecPut, Space: 1}, {Kind: api.RecMove, To: 1}, {Kind: api.RecBad}, {Kind: api.RecWorn, N: 1},
		{Kind: 10, Space: 1}, mk(16, 1), mk(3, 0), trim(1, 1024), double(1, 0), drop(0), seal(-1),
	} {
		refused("what may not be", b.wantDo(r), api.ErrInput)
	}
	refused("a space that is there", b.wantDo(mk(1, 1)), api.ErrSpace)
	refused("trim of no space", b.wantDo(trim(3, 0)), api.ErrSpace)
	refused("trim of a sealed one", b.wantDo(trim(2, 0)), api.ErrSealed)
	refused("trim of no page", b.wantDo(trim(1, 3)), api.ErrPage)
	refused("copy of none", b.wantDo(double(3, 4)), api.ErrSpace)
	refused("copy to one", b.wantDo(double(1, 2)), api.ErrSpace)
	for b.plain.did < api.MostTx {
		mustBe(t, "put", b.wantPut(1, 0, long), api.OK)
	}
	refused("a ninth change", b.wantPut(1, 0, ""), api.ErrMany)
	refused("a ninth change", b.wantDo(drop(1)), api.ErrMany)
	refused("long, a ninth change", b.wantPut(1, 0, long+"x"), api.ErrLong)
	mustBe(t, "commit", b.wantCommit(), api.OK)
	b.wantSame()
	b.wantMount()
	b.wantSame()
}

// TestRoom: a transaction has the room of the chip, for what stands there and what is put.
func TestRoom(t *testing.T) {
	for _, g := range []api.Geometry{usual, {Blocks: 10, Pages: 5, Size: 256}} {
		b := newBench(t, g)
		room := ftl.RoomOf(g)
		b.did(b.does(mk(1, api.MostQuota)))
		for n := range room.Places {
			b.did(b.puts(1, n, "x"))
		}
		b.wantBegin()
		mustBe(t, "a place too much", b.wantPut(1, room.Places, "x"), api.ErrRoom)
		mustBe(t, "in the place of another one", b.wantPut(1, 0, "y"), api.OK)
		mustBe(t, "trim", b.wantDo(trim(1, 1)), api.OK)
		mustBe(t, "the place that is free", b.wantPut(1, room.Places, "x"), api.OK)
		mustBe(t, "a copy", b.wantDo(double(1, 2)), api.OK)
		mustBe(t, "a page too much", b.wantDo(double(1, 3)), api.ErrRoom)
		mustBe(t, "commit", b.wantCommit(), api.OK)
		b.wantSame()
		b.wantBegin()
		mustBe(t, "a place too much", b.wantPut(2, 0, "x"), api.ErrRoom)
		b.wantAbort()
		b.wantMount()
		b.wantSame()
	}
}

// TestAsATransaction: what Put and Do answer is what a transaction over the same state answers, and that is what is there.
func TestAsATransaction(t *testing.T) {
	b := filled(t)
	for range 300 {
		x := txn.New(b.FTL().State(), b.FTL().Room(), usual.Size)
		mustBe(t, "begin", b.wantBegin(), api.OK)
		for range b.r.Intn(12) {
			if b.r.Intn(2) == 0 {
				id, page, text := 1+b.r.Intn(4), b.r.Intn(6)-1, b.text()
				mustBe(t, "put", b.wantPut(id, page, text), x.Put(id, page, text))
			} else {
				r := b.record()
				mustBe(t, "do", b.wantDo(r), x.Do(r))
			}
			if !slices.Equal(b.Spaces(), x.Spaces()) {
				t.Fatal(b.Spaces(), "want", x.Spaces())
			}
		}
		if b.r.Intn(3) == 0 {
			b.wantAbort()
		} else {
			b.wantCommit()
		}
	}
	b.wantSame()
}

// TestNothingIsDoneAheadOfCommit: neither the chip nor whoever else mounts it sees anything of a transaction that is open or was aborted.
func TestNothingIsDoneAheadOfCommit(t *testing.T) {
	b := filled(t)
	was := b.plain.stand.own()
	for range 3 {
		did, all := b.chip.Did(), pages(b.chip)
		b.wantBegin()
		b.wantPut(1, 0, "other")
		b.wantPut(1, 3, "new")
		b.wantDo(trim(1, 1))
		b.wantDo(mk(5, 5))
		b.wantPut(5, 4, "new")
		b.wantDo(drop(2))
		b.wantDo(seal(1))
		b.wantSame()
		if b.chip.Did() != did || !slices.Equal(pages(b.chip), all) {
			t.Error("something was done ahead of Commit")
		}
		if d, e := Mount(b.chip); e != api.OK || d.Busy() || !has(t, d).equals(was) {
			t.Error("whoever mounts it sees it", e)
		}
		mustBe(t, "abort", b.wantAbort(), api.OK)
		if b.chip.Did() != did || b.Busy() || !has(t, b.Dev).equals(was) {
			t.Error("something was done by Abort")
		}
	}
	// Nothing is left of what was aborted.
	b.did(b.puts(1, 2, "two"))
	b.wantSame()
	b.wantMount()
	b.wantSame()
}

func TestCommitDoesAll(t *testing.T) {
	b := filled(t)
	b.wantBegin()
	for _, do := range []func() api.Errno{
		b.puts(1, 0, "other"), b.does(trim(1, 1)), b.does(mk(5, 5)), b.puts(5, 4, ""),
		b.does(drop(2)), b.does(double(1, 2)), b.puts(2, 3, strings.Repeat("\xff", usual.Size)), b.does(seal(5)),
	} {
		mustBe(t, "change", do(), api.OK)
	}
	b.wantSame()
	mustBe(t, "commit", b.wantCommit(), api.OK)
	for range 2 {
		b.wantSame()
		b.wantMount()
	}
	// One that changes nothing is one, too.
	b.did()
	b.wantSame()
	if b.Busy() {
		t.Error("open")
	}
}

// TestCommitCloses: whatever Commit answers, the transaction is closed.
func TestCommitCloses(t *testing.T) {
	closed := func(b *bench, what string, got, want api.Errno) {
		t.Helper()
		mustBe(t, what, got, want)
		if b.Busy() {
			t.Error(what, "leaves it open")
		}
		b.plain.open = nil
		b.chip.Power()
		mustBe(t, what+", then commit", b.Commit(), api.ErrOpen)
		mustBe(t, what+", then abort", b.Abort(), api.ErrOpen)
		mustBe(t, what+", then put", b.Put(1, 0, ""), api.ErrOpen)
	}
	b := filled(t)
	b.wantBegin()
	b.wantPut(1, 0, "other")
	closed(b, "done", b.wantCommit(), api.OK)
	b.wantSame()

	b.wantBegin()
	b.wantPut(1, 0, "lost")
	takePower(b.chip)
	closed(b, "without power", b.Commit(), api.ErrOff)
	b.wantSame()
	b.wantMount()
	b.wantSame()

	b.wantBegin()
	b.wantPut(1, 0, "lost")
	b.chip.Arm(api.Faults{Cuts: []api.Cut{{At: 1}}})
	closed(b, "the power fails", b.Commit(), api.ErrOff)
	b.wantMount()
	b.wantSame()

	// Others who have the FTL may have taken what the transaction needs.
	b.wantBegin()
	b.wantPut(1, 0, "lost")
	mustBe(t, "by the FTL", b.FTL().Commit([]api.Change{{Record: drop(1)}}), api.OK)
	closed(b, "no space any more", b.Commit(), api.ErrSpace)
	b.plain.stand.apply(drop(1))
	b.wantSame()
	b.wantMount()
	b.wantSame()
}

func TestCommitOfAChipThatIsFull(t *testing.T) {
	b := newBench(t, usual)
	places := ftl.RoomOf(usual).Places
	b.did(b.does(mk(1, 100)))
	for n := range places - 1 {
		b.did(b.puts(1, n, "x"))
	}
	b.wantBegin()
	mustBe(t, "the last place", b.wantPut(1, 50, "lost"), api.OK)
	l := []api.Change{{Record: api.Record{Kind: api.RecPut, Space: 1, Page: 60}, Text: "by the FTL"}}
	mustBe(t, "by the FTL", b.FTL().Commit(l), api.OK)
	mustBe(t, "commit", b.Commit(), api.ErrFull)
	if s, e := b.Get(1, 60); b.Busy() || s != "by the FTL" || e != api.OK {
		t.Error(b.Busy(), s, e)
	}
	if _, e := b.Get(1, 50); e != api.ErrNone {
		t.Error(e)
	}
}

// TestWornChips: what was there can be read, and a transaction is told as worn when it is committed.
func TestWornChips(t *testing.T) {
	b := filled(t, 9, 11)
	b.chip.Arm(api.Faults{Fails: []int{1}})
	b.did(b.puts(1, 0, "the last one"))
	for range 2 {
		did := b.chip.Did()
		mustBe(t, "begin", b.Begin(), api.OK)
		mustBe(t, "put", b.Put(1, 0, "lost"), api.OK)
		mustBe(t, "make", b.Do(mk(3, 1)), api.OK)
		if s, e := b.Get(1, 0); s != "lost" || e != api.OK {
			t.Error(s, e)
		}
		mustBe(t, "commit", b.Commit(), api.ErrWorn)
		if b.chip.Did() != did || b.Busy() {
			t.Error("something was done, or it is open")
		}
		b.wantSame()
		b.wantMount()
		b.wantSame()
	}
	if d, e := Format(b.chip); d != nil || e != api.ErrWorn {
		t.Error(e)
	}
}

func TestGet(t *testing.T) {
	b := filled(t)
	for range 2 { // what stands on the chip, and the same in a transaction without changes
		for key, want := range map[[2]int]string{{1, 0}: "zero", {1, 1}: "one", {2, 0}: "sealed"} {
			if s, e := b.Get(key[0], key[1]); s != want || e != api.OK {
				t.Error(key, s, e)
			}
		}
		for _, no := range [][2]int{{1, 2}, {1, 4}, {1, -1}, {1, 1024}, {2, 1}, {3, 0}, {0, 0}, {-1, 0}, {16, 0}, {math.MinInt, math.MaxInt}} {
			if s, e := b.Get(no[0], no[1]); s != "" || e != api.ErrNone {
				t.Error(no, s, e)
			}
		}
		b.wantBegin()
	}
	in := func(id, page int, want string, e api.Errno) {
		t.Helper()
		if s, got := b.Get(id, page); s != want || got != e {
			t.Error("page", page, "of", id, s, got)
		}
	}
	b.wantPut(1, 2, "two")
	b.wantPut(1, 0, "")
	b.wantDo(double(1, 3))
	b.wantPut(1, 2, "three")
	b.wantDo(trim(1, 1))
	b.wantDo(drop(2))
	in(1, 0, "", api.OK) // a page that says nothing is there
	in(1, 1, "", api.ErrNone)
	in(1, 2, "three", api.OK)
	in(1, 3, "", api.ErrNone)
	in(2, 0, "", api.ErrNone)
	in(3, 0, "", api.OK)
	in(3, 1, "one", api.OK) // what the copy has stands on the chip
	in(3, 2, "two", api.OK)
	b.wantAbort()
	in(1, 0, "zero", api.OK)
	in(1, 1, "one", api.OK)
	in(1, 2, "", api.ErrNone)
	in(2, 0, "sealed", api.OK)
	in(3, 1, "", api.ErrNone)
}

func TestSpaces(t *testing.T) {
	b := filled(t)
	stand := []api.Space{{ID: 1, Quota: 4, Pages: 2}, {ID: 2, Quota: 1, Pages: 1, Sealed: true}}
	want := func(l []api.Space) {
		t.Helper()
		if got := b.Spaces(); !slices.Equal(got, l) {
			t.Error(got, "want", l)
		}
	}
	want(stand)
	b.wantBegin()
	want(stand)
	b.wantPut(1, 3, "x")
	b.wantDo(drop(2))
	b.wantDo(double(1, 9))
	b.wantDo(trim(9, 0))
	b.wantDo(seal(1))
	open := []api.Space{{ID: 1, Quota: 4, Pages: 3, Sealed: true}, {ID: 9, Quota: 4, Pages: 2}}
	want(open)
	b.wantAbort()
	want(stand)
	b.did(b.does(drop(2)))
	want(stand[:1])

	// What is told is the caller's own.
	for range 2 {
		l := b.Spaces()
		l[0].Quota = 99
		want(stand[:1])
		b.wantBegin()
	}
}

func TestBusy(t *testing.T) {
	b := newBench(t, usual)
	want := func(is bool) {
		t.Helper()
		if b.Busy() != is {
			t.Error("busy", b.Busy())
		}
	}
	want(false)
	b.wantBegin()
	want(true)
	b.wantPut(1, 0, "") // refused
	want(true)
	b.wantDo(mk(1, 1))
	want(true)
	b.wantGet(1, 0)
	want(true)
	b.wantCommit()
	want(false)
	b.wantBegin()
	want(true)
	b.wantAbort()
	want(false)
	b.wantBegin()
	old := b.Dev
	b.wantMount()
	want(false)
	if !old.Busy() {
		t.Error("another device closes it")
	}
}

// TestFTL: it is the thing itself.
func TestFTL(t *testing.T) {
	b := filled(t)
	if b.FTL() == nil || b.FTL() != b.FTL() || b.FTL().Room() != ftl.RoomOf(usual) {
		t.Fatal(b.FTL())
	}
	if s, is, e := b.FTL().Read(1, 1); s != "one" || !is || e != api.OK {
		t.Error(s, is, e)
	}
	mustBe(t, "by the FTL", b.FTL().Commit([]api.Change{{Record: mk(7, 7)}}), api.OK)
	b.plain.stand.apply(mk(7, 7))
	b.wantSame()
	f := b.FTL()
	b.wantBegin()
	b.wantDo(drop(7))
	if b.FTL() != f || len(f.State().Spaces()) != 3 {
		t.Error("a transaction that is open is done")
	}
	b.wantCommit()
	if b.FTL() != f || len(f.State().Spaces()) != 2 {
		t.Error("a transaction that is committed is not done")
	}
}

// TestBlocksAreClearedInATransaction: whoever has the FTL may let it clear blocks, so that what the transaction has not changed stands elsewhere.
func TestBlocksAreClearedInATransaction(t *testing.T) {
	b := filled(t)
	b.wantBegin()
	b.wantPut(1, 2, "two")
	b.wantDo(double(1, 3))
	b.wantDo(trim(1, 1))
	b.wantDo(drop(2))
	b.wantDo(mk(2, 2))
	b.wantPut(2, 1, "another")
	b.wantDo(seal(1))
	// Until each block was erased in which a page stood when the transaction was opened.
	began, stood := b.chip.Worn(), b.stood()
	left := func(block int) bool { return b.chip.Worn()[block] == began[block] }
	for n := 0; slices.ContainsFunc(stood, left); n++ {
		if n == 2000 {
			t.Fatal("blocks", stood, "were never cleared", b.chip.Worn())
		}
		mustBe(t, "checkpoint", b.FTL().Checkpoint(), api.OK)
		b.wantSame()
	}
	mustBe(t, "put", b.wantPut(3, 0, "more"), api.OK)
	b.wantSame()
	mustBe(t, "commit", b.wantCommit(), api.OK)
	b.wantSame()
	b.wantMount()
	b.wantSame()
}

// stood is the blocks in which something stands on the chip.
func (b *bench) stood() []int {
	var l []int
	s := b.FTL().State()
	for at := range usual.Blocks * usual.Pages {
		if s.Refs(at) > 0 {
			l = append(l, at/usual.Pages)
		}
	}
	return l
}

// asked is what each call that tells an error answers, with things that may be and things that may not.
func asked(d *Dev) map[string]api.Errno {
	long := strings.Repeat("x", usual.Size+1)
	get := func(id, page int) api.Errno {
		s, e := d.Get(id, page)
		if s != "" {
			return -1
		}
		return e
	}
	return map[string]api.Errno{
		"begin":          d.Begin(),
		"put":            d.Put(1, 0, "x"),
		"put of long":    d.Put(1, 0, long),
		"put of no page": d.Put(1, 99, "x"),
		"put of none":    d.Put(-1, -1, ""),
		"do":             d.Do(mk(9, 1)),
		"do of nothing":  d.Do(api.Record{}),
		"do of no space": d.Do(drop(8)),
		"get":            get(1, 0),
		"get of no page": get(1, 3),
		"get of none":    get(-1, -1),
		"abort":          d.Abort(),
	}
}

// TestWithoutPower: that there is none is told first, and changes nothing; only Commit closes what is open.
func TestWithoutPower(t *testing.T) {
	b := filled(t)
	for _, open := range []bool{false, true} {
		if open {
			b.wantBegin()
			b.wantPut(1, 0, "other")
		}
		takePower(b.chip)
		did := b.chip.Did()
		for what, e := range asked(b.Dev) {
			mustBe(t, what, e, api.ErrOff)
		}
		if b.Busy() != open || b.FTL() == nil || b.chip.Did() != did {
			t.Error("without power", b.Busy(), b.FTL())
		}
		// Where it failed in no action of the device, that goes on with the power.
		b.chip.Power()
		b.wantSame()
	}
	b.wantCommit()
	b.wantSame()
	takePower(b.chip)
	mustBe(t, "commit, where none is open", b.Commit(), api.ErrOff)
	b.chip.Power()
	mustBe(t, "begin", b.wantBegin(), api.OK)
	b.wantPut(1, 0, "lost")
	takePower(b.chip)
	mustBe(t, "commit", b.Commit(), api.ErrOff)
	b.plain.open = nil
	b.chip.Power()
	b.wantSame()
	b.wantMount()
	b.wantSame()
}

func TestNone(t *testing.T) {
	for name, d := range map[string]*Dev{"nil": nil, "none": {}} {
		for what, e := range asked(d) {
			mustBe(t, name+" "+what, e, api.ErrInput)
		}
		mustBe(t, name+" commit", d.Commit(), api.ErrInput)
		if d.Spaces() != nil || d.Busy() || d.FTL() != nil {
			t.Error(name, "has something", d.Spaces(), d.Busy(), d.FTL())
		}
	}
}
