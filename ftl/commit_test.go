package ftl

import (
	"slices"
	"strings"
	"testing"

	"tinderbox/api"
	"tinderbox/ckpt"
	"tinderbox/group"
	"tinderbox/nand"
	"tinderbox/scan"
)

// of is a change without a text.
func of(r api.Record) api.Change { return api.Change{Record: r} }

// wantRefused asks that changes are refused, and that nothing is done then.
func (b *bench) wantRefused(name string, want api.Errno, l ...api.Change) {
	b.t.Helper()
	was, did, free := b.State().Dump(), b.chip.Did(), b.Free()
	if e := b.Commit(l); e != want {
		b.t.Error(name, e, "want", want)
	}
	if b.chip.Did() != did || b.Free() != free || !slices.Equal(b.State().Dump(), was) {
		b.t.Error(name, "something was done")
	}
	b.wantSame()
}

func TestChangesThatMayNotBe(t *testing.T) {
	b := newBench(t, usual)
	b.mustCommit(mk(1, 9), put(1, 0, "zero"))
	long := strings.Repeat("x", usual.Size)
	b.wantRefused("nine changes", api.ErrInput, slices.Repeat([]api.Change{put(1, 0, "")}, api.MostTx+1)...)
	b.wantRefused("a long text", api.ErrInput, put(1, 0, long+"x"))
	for name, r := range map[string]api.Record{
		"trim": {Kind: api.RecTrim, Space: 1},
		"make": {Kind: api.RecMake, Space: 2, N: 1},
		"drop": {Kind: api.RecDrop, Space: 1},
		"copy": {Kind: api.RecCopy, Space: 1, To: 2},
		"seal": {Kind: api.RecSeal, Space: 1},
	} {
		b.wantRefused(name+" with a text", api.ErrInput, api.Change{Record: r, Text: "x"})
	}
	for name, r := range map[string]api.Record{
		"move": {Kind: api.RecMove, At: 0, To: 9},
		"bad":  {Kind: api.RecBad, At: 3},
		"worn": {Kind: api.RecWorn, At: 3, N: 5},
		"0":    {},
		"10":   {Kind: 10},
		"-1":   {Kind: -1},
	} {
		b.wantRefused("kind "+name, api.ErrInput, of(r))
		// What may not be is told ahead of what the state refuses.
		b.wantRefused("kind "+name+" behind", api.ErrInput, drop(2), of(r))
	}
	b.mustCommit(slices.Repeat([]api.Change{put(1, 0, long)}, api.MostTx)...)
	wantRead(t, b.FTL, 1, 0, long)
}

func TestChangesThatTheStateRefuses(t *testing.T) {
	b := newBench(t, usual)
	b.mustCommit(mk(1, 9), put(1, 0, "zero"), mk(2, 1))
	for name, x := range map[string]struct {
		want api.Errno
		c    api.Change
	}{
		"put without a space":   {api.ErrSpace, put(3, 0, "")},
		"put beyond":            {api.ErrPage, put(1, 9, "")},
		"put into space 0":      {api.ErrInput, put(0, 0, "")},
		"put into space 16":     {api.ErrInput, put(16, 0, "")},
		"put page -1":           {api.ErrInput, put(1, -1, "")},
		"put page 1024":         {api.ErrInput, put(1, 1024, "")},
		"put with more":         {api.ErrInput, of(api.Record{Kind: api.RecPut, Space: 1, N: 1})},
		"trim without a space":  {api.ErrSpace, trim(3, 0)},
		"trim of nothing":       {api.ErrPage, trim(1, 5)},
		"trim with more":        {api.ErrInput, of(api.Record{Kind: api.RecTrim, Space: 1, At: 1})},
		"make of one":           {api.ErrSpace, mk(1, 3)},
		"make of no pages":      {api.ErrInput, mk(3, 0)},
		"make of too many":      {api.ErrInput, mk(3, 1025)},
		"drop of none":          {api.ErrSpace, drop(3)},
		"copy of none":          {api.ErrSpace, double(3, 4)},
		"copy to one":           {api.ErrSpace, double(1, 2)},
		"copy to itself":        {api.ErrSpace, double(1, 1)},
		"copy to 0":             {api.ErrInput, double(1, 0)},
		"seal of none":          {api.ErrSpace, seal(3)},
		"seal of less than all": {api.ErrInput, seal(0)},
	} {
		b.wantRefused(name, x.want, x.c)
		b.wantRefused(name+" behind others", x.want, put(1, 1, "one"), trim(1, 0), x.c)
		b.wantRefused(name+" ahead of others", x.want, x.c, mk(16, 3), drop(9))
	}
	// What is refused by itself may be behind others.
	b.mustCommit(mk(3, 1), put(3, 0, "x"), trim(3, 0), drop(3), mk(3, 2), put(3, 1, "y"))
	b.wantSame()
}

// Where it is to stand is not looked at, whatever it says.
func TestPlacesOfPutsAreNotLookedAt(t *testing.T) {
	b := newBench(t, usual)
	b.mustCommit(mk(1, 9))
	for i, at := range []int{-1, 0, 5, api.MostAt - 1, api.MostAt, api.MostAt + 3, 1 << 40} {
		c := put(1, i, "text "+string(rune('a'+i)))
		c.Record.At = at
		b.mustCommit(c)
		b.wantSame()
	}
	b.wantMount()
	b.wantSame()
}

func TestPlacesAndKeys(t *testing.T) {
	b := newBench(t, usual)
	room := b.Room()
	b.mustCommit(mk(1, 1000))
	for p := range room.Places {
		b.mustCommit(put(1, p, "x"))
	}
	b.wantRefused("a place too much", api.ErrFull, put(1, room.Places, "x"))
	b.wantRefused("a page beyond, ahead of places", api.ErrPage, put(1, room.Places, "x"), put(1, 1000, "x"))
	// What counts is what there is behind all of them.
	b.mustCommit(put(1, room.Places, "x"), put(1, room.Places+1, "x"), trim(1, 0), trim(1, 1))
	b.mustCommit(put(1, 2, "another"))
	b.mustCommit(double(1, 2))
	if b.State().Live() != room.Places || b.State().Keys() != room.Keys {
		t.Fatal(b.State().Live(), b.State().Keys())
	}
	b.mustCommit(mk(4, 3), seal(1))
	b.wantRefused("a copy too much", api.ErrFull, mk(3, 1), double(2, 5))
	b.wantRefused("a place too much by a copy", api.ErrFull, put(2, 2, "x"))
	b.mustCommit(trim(1, 2), put(2, 2, "x"))
	b.mustCommit(drop(1), drop(2))
	b.wantSame()

	// Many pages at one place.
	b.mustCommit(mk(1, 9), put(1, 0, "x"), put(1, 1, "x"), put(1, 2, "x"))
	for space := 2; (space-1)*3 < room.Keys-3; space++ {
		if space == 4 {
			b.mustCommit(drop(4))
		}
		b.mustCommit(double(1, space))
	}
	b.wantRefused("a key too much", api.ErrFull, double(1, 15))
	b.wantSame()
}

func TestRefusedWithoutPower(t *testing.T) {
	b := newBench(t, usual)
	b.mustCommit(mk(1, 9))
	b.chip.Arm(api.Faults{Cuts: []api.Cut{{At: 1}}})
	if e := b.Commit([]api.Change{mk(2, 9)}); e != api.ErrOff {
		t.Fatal(e)
	}
	for name, l := range map[string][]api.Change{
		"what may be":          {mk(2, 9)},
		"nothing":              nil,
		"what may not be":      {of(api.Record{Kind: api.RecBad})},
		"what state refuses":   {drop(9)},
		"what is too much":     slices.Repeat([]api.Change{mk(2, 9)}, 9),
		"what is much, as put": {put(1, 0, strings.Repeat("x", 65))},
	} {
		if e := b.Commit(l); e != api.ErrOff {
			t.Error(name, e)
		}
	}
	// Whoever gives power again must mount: only the chip knows what came of it.
	b.chip.Power()
	if e := b.Commit([]api.Change{mk(2, 9)}); e != api.ErrOff {
		t.Error(e)
	}
	b.wantMount()
	b.mustCommit(mk(2, 9))
	// Where it failed in no action of a device, that goes on with the power.
	b.chip.Arm(api.Faults{Cuts: []api.Cut{{At: 1}}})
	b.chip.Mark(9)
	if e := b.Commit([]api.Change{of(api.Record{Kind: api.RecBad})}); e != api.ErrOff {
		t.Error(e)
	}
	b.chip.Power()
	b.mustCommit(mk(3, 9))
	b.wantMount()
	b.wantSame()
}

func TestRefusedByWornChips(t *testing.T) {
	b := newBench(t, usual, 3)
	b.mustCommit(mk(1, 50), put(1, 0, "zero"))
	for p := 10; p < 20; p++ {
		b.mustCommit(put(1, p, "more"))
	}
	b.chip.Arm(api.Faults{Fails: []int{1, 3}})
	// It is done all the same, and so it is told.
	b.mustCommit(put(1, 1, "one"))
	if n := b.State().Bads(); n != 3 {
		t.Fatal(n)
	}
	b.wantRefused("what may be", api.ErrWorn, put(1, 2, "two"))
	b.wantRefused("nothing", api.ErrWorn)
	// That is told behind all that is wrong with changes.
	b.wantRefused("a kind", api.ErrInput, of(api.Record{Kind: api.RecBad}))
	b.wantRefused("a space", api.ErrSpace, drop(2))
	b.wantRefused("places", api.ErrFull, double(1, 2), double(1, 3), double(1, 4))
	b.wantMount()
	b.wantSame()
	b.wantRefused("what may be", api.ErrWorn, put(1, 2, "two"))
}

// Of a chip that is worn nothing is cleared any more.
func TestWornChipsAreLetBe(t *testing.T) {
	h, _ := eight(t, 3, 5)
	for _, b := range []int{8, 9, 10} {
		h.chip.Mark(b)
	}
	f := h.mount()
	did := h.chip.Did()
	if e := f.Commit([]api.Change{put(1, 8, "x")}); e != api.ErrWorn || h.chip.Did() != did {
		t.Error(e, h.chip.Did()-did)
	}
}

// However many blocks fail in it, a commit is done, or it is told that it is not.
func TestChipsWearOutInACommit(t *testing.T) {
	for at := 1; at < 30; at++ {
		b := newBench(t, usual)
		b.fill()
		b.mustCommit(drop(2))
		for range at {
			b.mustCommit(b.puts(3, b.plain.room.Places)...)
		}
		var fails []int
		for i := range 60 {
			fails = append(fails, at+i)
		}
		b.chip.Arm(api.Faults{Fails: fails})
		worn := false
		for range 60 {
			e := b.wantCommit(b.puts(api.MostTx, b.plain.room.Places)...)
			worn = worn || e == api.ErrWorn
			if e != api.OK && e != api.ErrWorn || worn && e == api.OK {
				t.Fatal(at, e)
			}
		}
		if !worn {
			t.Fatal(at, "it is not worn")
		}
		b.wantSame()
		b.wantMount()
		b.wantSame()
	}
}

func TestNoRoom(t *testing.T) {
	h := byHand(t, usual, api.Faults{})
	records := []api.Record{{Kind: api.RecMake, Space: 1, N: 1000}}
	for p := range 90 { // more than there is room for, as no commit leaves it
		records = append(records, api.Record{Kind: api.RecPut, Space: 1, Page: p, At: h.data("x")})
	}
	h.tell(api.PageCheck, records...)
	f := h.mount()
	if e := f.Commit([]api.Change{trim(1, 0)}); e != api.ErrFull {
		t.Error(e)
	}
	if e := f.Commit([]api.Change{drop(1)}); e != api.ErrFull {
		t.Error(e, f.Free())
	}
	for _, x := range []*FTL{f, h.mount()} {
		if l := x.State().Spaces(); len(l) != 1 || l[0].Pages != 90 {
			t.Error(l)
		}
		for p := range 90 {
			wantRead(t, x, 1, p, "x")
		}
	}
}

// pagesBehind is all valid pages behind a Seq, by their Seq.
func pagesBehind(t *testing.T, c *nand.Chip, seq uint64) []api.Found {
	t.Helper()
	all, e := scan.All(c)
	if e != api.OK {
		t.Fatal(e)
	}
	all = slices.DeleteFunc(all, func(x api.Found) bool { return x.Class != api.ClassValid || x.Tag.Seq <= seq })
	slices.SortFunc(all, func(a, b api.Found) int { return int(a.Tag.Seq) - int(b.Tag.Seq) })
	return all
}

func TestWhatACommitWrites(t *testing.T) {
	b := newBench(t, usual)
	seq := pagesBehind(t, b.chip, 0)[0].Tag.Seq // of the checkpoint
	b.mustCommit(mk(1, 9), put(1, 3, "three"), double(1, 2), put(2, 4, "four"))
	l := pagesBehind(t, b.chip, seq)
	if len(l) != 3 {
		t.Fatal(l)
	}
	for i, x := range l {
		want := api.Tag{Kind: api.PageData, Seq: seq + 1 + uint64(i), Of: 1, Worn: 1}
		if i == 2 {
			want.Kind = api.PageJournal
		}
		if x.Tag != want || x.At != l[0].At+i {
			t.Error(x, "want", want)
		}
	}
	if l[0].Text != "three" || l[1].Text != "four" {
		t.Error(l)
	}
	records, e := group.Unpack(l[2].Text)
	want := []api.Record{
		{Kind: api.RecMake, Space: 1, N: 9},
		{Kind: api.RecPut, Space: 1, Page: 3, At: l[0].At},
		{Kind: api.RecCopy, Space: 1, To: 2},
		{Kind: api.RecPut, Space: 2, Page: 4, At: l[1].At},
	}
	if e != api.OK || !slices.Equal(records, want) {
		t.Error(records, e)
	}
}

// What happened to blocks since is told ahead of what is committed.
func TestWhatACommitTellsOfBlocks(t *testing.T) {
	b := newBench(t, usual)
	b.mustCommit(mk(1, 9))
	at := len(journalOf(t, b.chip))
	b.chip.Arm(api.Faults{Fails: []int{1}})
	b.mustCommit(put(1, 0, "zero"))
	l := journalOf(t, b.chip)[at:]
	if len(l) < 2 || l[0] != (api.Record{Kind: api.RecBad, At: 0}) || l[1].Kind != api.RecPut || l[1].At != usual.Pages {
		t.Error(l)
	}
	for _, r := range l[1:] {
		if r.Kind == api.RecBad {
			t.Error("told again", l)
		}
	}
}

// eight is a chip of which eight blocks are written by hand, so that a commit must clear one; in each something stands on the last page, but in those without.
func eight(t *testing.T, without ...int) (*hand, map[int]int) {
	t.Helper()
	h := byHand(t, usual, api.Faults{})
	records := []api.Record{{Kind: api.RecMake, Space: 1, N: 9}}
	stands := map[int]int{}
	for b := range 8 {
		if b == 7 {
			h.waste(usual.Pages - 2)
			break
		}
		h.waste(usual.Pages - 1)
		at := h.data("of " + string(rune('0'+b)))
		if !slices.Contains(without, b) {
			stands[b] = at
			records = append(records, api.Record{Kind: api.RecPut, Space: 1, Page: b, At: at})
		}
	}
	h.tell(api.PageCheck, records...)
	return h, stands
}

func wantErased(t *testing.T, c *nand.Chip, blocks ...int) {
	t.Helper()
	for b, n := range c.Worn() {
		if want := slices.Contains(blocks, b); (n > 0) != want {
			t.Error("block", b, "was erased", n, "times")
		}
	}
}

func TestRoomIsMadeOfBlocksThatAreNotNeeded(t *testing.T) {
	h, _ := eight(t, 3, 5)
	f := h.mount()
	if f.Free() >= api.MostTx+f.Room().Reserve {
		t.Fatal(f.Free())
	}
	did := h.chip.Did()
	if e := f.Commit([]api.Change{put(1, 8, "x")}); e != api.OK {
		t.Fatal(e)
	}
	wantErased(t, h.chip, 3)
	if n := h.chip.Did() - did; n != 3 { // the erasure, the page, the records
		t.Error(n)
	}
	for p := range 7 {
		if p != 3 && p != 5 {
			wantRead(t, f, 1, p, "of "+string(rune('0'+p)))
		}
	}
	wantRead(t, f, 1, 8, "x")
}

func TestRoomIsMadeOfBlocksThatAreWorthMost(t *testing.T) {
	h, stands := eight(t)
	f := h.mount()
	if e := f.Commit([]api.Change{put(1, 8, "x")}); e != api.OK {
		t.Fatal(e)
	}
	// In all of them but the last one a page is needed: the oldest one is worth most.
	if h.chip.Worn()[0] != 1 {
		t.Error(h.chip.Worn())
	}
	at, _ := f.State().Get(1, 0)
	if at == stands[0] || !slices.Contains(journalOf(t, h.chip), api.Record{Kind: api.RecMove, At: stands[0], To: at}) {
		t.Error("it stands at", at, journalOf(t, h.chip))
	}
	m := h.mount()
	for p := range 7 {
		wantRead(t, f, 1, p, "of "+string(rune('0'+p)))
		wantRead(t, m, 1, p, "of "+string(rune('0'+p)))
	}
}

// Of blocks of which much is needed an old one is worth less than a younger one of which little is.
func TestRoomIsNotMadeOfTheOldestAlone(t *testing.T) {
	h := byHand(t, usual, api.Faults{})
	records := []api.Record{{Kind: api.RecMake, Space: 1, N: 30}}
	for p := range 30 {
		// In blocks 0 and 1 something stands on 7 pages each, in 2 to 7 on one each.
		at := 0
		switch {
		case p < 14:
			if at = h.data("x"); at%usual.Pages == 6 {
				h.waste(1)
			}
		case p < 19:
			at = h.data("x")
			h.waste(7)
		default:
			continue
		}
		records = append(records, api.Record{Kind: api.RecPut, Space: 1, Page: p, At: at})
	}
	h.waste(4)
	h.tell(api.PageCheck, records...)
	f := h.mount()
	if e := f.Commit([]api.Change{put(1, 0, "y")}); e != api.OK {
		t.Fatal(e)
	}
	if l := h.chip.Worn(); l[0] != 0 || l[1] != 0 || l[2] != 1 {
		t.Error(l)
	}
}

// Pages that tell what stands where are needed: a checkpoint is written ahead of clearing their block.
func TestBlocksThatTellAreClearedBehindACheckpoint(t *testing.T) {
	h := byHand(t, usual, api.Faults{})
	check := h.tell(api.PageCheck, api.Record{Kind: api.RecMake, Space: 1, N: 30})
	h.waste(usual.Pages - 1)
	records := []api.Record{}
	for p := range 7 {
		records = append(records, api.Record{Kind: api.RecPut, Space: 1, Page: p, At: h.data("here")})
		if p < 6 {
			h.waste(usual.Pages - 1)
		}
	}
	h.tell(api.PageJournal, records...)
	all, _ := scan.All(h.chip)
	was, _ := scan.Rebuild(all)
	f := h.mount()
	if e := f.Commit([]api.Change{put(1, 8, "x")}); e != api.OK {
		t.Fatal(e)
	}
	all, _ = scan.All(h.chip)
	is, e := scan.Rebuild(all)
	if e != api.OK || is.Check() <= was.Check() || h.chip.Worn()[0] != 1 || slices.Contains(is.Meta(), check[0]) {
		t.Error(e, is.Check(), was.Check(), h.chip.Worn(), is.Meta())
	}
	for p := range 7 {
		wantRead(t, h.mount(), 1, p, "here")
	}
}

func TestRoomIsKept(t *testing.T) {
	for _, g := range geometries() {
		b := newBench(t, g, spared(g)...)
		b.fill()
		b.mustCommit(drop(2))
		for range 200 {
			b.mustCommit(b.puts(api.MostTx, b.plain.room.Places)...)
			if b.Free() < b.plain.room.Reserve/2 {
				t.Fatal(g, b.Free(), b.plain.room)
			}
		}
	}
}

func TestJournalsAreShortened(t *testing.T) {
	b := newBench(t, usual)
	most := 2 * usual.Pages
	for i := range 3 * most {
		if i%2 == 0 {
			b.mustCommit(mk(1, 9))
		} else {
			b.mustCommit(drop(1))
		}
		if want := (i + 1) % (most + 1); b.Tells() != want {
			t.Fatal(i, b.Tells(), "want", want)
		}
	}
	b.wantMount()
	b.wantSame()
}

func TestBadBlocksThatAreNeededAreCleared(t *testing.T) {
	for at := 1; at <= 20; at++ {
		b := newBench(t, usual)
		b.mustCommit(mk(1, 9), put(1, 0, "zero"), put(1, 1, "one"))
		b.chip.Arm(api.Faults{Fails: []int{at}})
		for i := range 20 {
			b.mustCommit(put(1, 2+i%7, "more"))
			b.wantNothingInBad()
		}
		if b.State().Bads() != 1 {
			t.Fatal(at, b.State().Bads())
		}
		b.wantSame()
		b.wantMount()
		b.wantSame()
		b.wantNothingInBad()
	}
}

// A block that is marked is bad, and is not erased, though what stood in it is written elsewhere.
func TestBadBlocksAreNotErased(t *testing.T) {
	h, stands := eight(t)
	h.chip.Mark(2)
	f := h.mount()
	if e := f.Commit(nil); e != api.OK {
		t.Fatal(e)
	}
	at, _ := f.State().Get(1, 2)
	if at == stands[2] || h.chip.Worn()[2] != 0 {
		t.Error(at, h.chip.Worn())
	}
	for _, x := range []*FTL{f, h.mount()} {
		for p := range 7 {
			wantRead(t, x, 1, p, "of "+string(rune('0'+p)))
		}
	}
}

// Blocks that were erased as often as a record may tell may be erased on.
func TestErasuresBeyondRecords(t *testing.T) {
	h, _ := eight(t, 3)
	var records []api.Record
	for b := range usual.Blocks {
		records = append(records, api.Record{Kind: api.RecWorn, At: b, N: api.MostWorn})
	}
	h.tell(api.PageJournal, records...)
	f := h.mount()
	for range 100 {
		if e := f.Commit([]api.Change{put(1, 8, "x")}); e != api.OK {
			t.Fatal(e)
		}
	}
	if h.chip.Worn()[3] == 0 || f.State().Worn(3) != api.MostWorn {
		t.Error(h.chip.Worn(), f.State().Worn(3))
	}
}

// When a block was written last is known as well by whoever wrote it as by whoever mounts it.
func TestAgesAreTheSameWhoeverMounts(t *testing.T) {
	b := newBench(t, usual)
	b.fill()
	b.mustCommit(drop(2))
	for i := range 200 {
		b.mustCommit(b.puts(1+i%api.MostTx, b.plain.room.Places)...)
		m, e := Mount(b.chip)
		if e != api.OK || m.next != b.next {
			t.Fatal(i, e, m.next, b.next)
		}
		for x := range usual.Blocks {
			if b.writer.Life().Is(x) != api.BlockFree && m.last[x] != b.last[x] {
				t.Fatal(i, "block", x, m.last[x], b.last[x])
			}
		}
	}
}

// A block that is full of what is needed is cleared, too, if another one was erased too much oftener; and that it was is told.
func TestColdBlocksAreCleared(t *testing.T) {
	for by, cold := range map[int]bool{api.Level: false, api.Level + 1: true} {
		h := byHand(t, usual, api.Faults{})
		records := []api.Record{{Kind: api.RecMake, Space: 1, N: 30}}
		for p := range usual.Pages {
			records = append(records, api.Record{Kind: api.RecPut, Space: 1, Page: p, At: h.data("cold")})
		}
		for x := range usual.Blocks {
			records = append(records, api.Record{Kind: api.RecWorn, At: x, N: 5})
		}
		h.tell(api.PageCheck, append(records, api.Record{Kind: api.RecWorn, At: 9, N: 5 + by})...)
		f := h.mount()
		if e := f.Commit(nil); e != api.OK {
			t.Fatal(e)
		}
		at, _ := f.State().Get(1, 0)
		if (at >= usual.Pages) != cold || (h.chip.Worn()[0] == 1) != cold {
			t.Error(by, at, h.chip.Worn())
		}
		m := h.mount()
		for p := range usual.Pages {
			wantRead(t, f, 1, p, "cold")
			wantRead(t, m, 1, p, "cold")
		}
		if want := 5 + h.chip.Worn()[0]; f.State().Worn(0) != want || m.State().Worn(0) != want {
			t.Error(by, f.State().Worn(0), m.State().Worn(0), "want", want)
		}
	}
}

func TestAnEmptyCommit(t *testing.T) {
	b := newBench(t, usual)
	b.mustCommit(mk(1, 9), put(1, 0, "zero"))
	b.mustCommit()
	b.wantSame()
	b.wantMount()
	b.wantSame()
}

// Changes belong to whoever made them.
func TestChangesAreNotKept(t *testing.T) {
	b := newBench(t, usual)
	l := []api.Change{mk(1, 9), put(1, 0, "zero")}
	was := slices.Clone(l)
	if e := b.Commit(l); e != api.OK || !slices.Equal(l, was) {
		t.Fatal(e, l)
	}
	l[0], l[1] = drop(1), put(1, 0, "other")
	wantRead(t, b.FTL, 1, 0, "zero")
}

// A group of which the last page is not there is not done, and what is written next does not make it whole.
func TestGroupsThatAreNotWholeStaySo(t *testing.T) {
	for _, keep := range []int{0, 40} {
		b := newBench(t, usual)
		b.mustCommit(mk(1, 1000))
		var l []api.Change
		for p := range api.MostTx {
			l = append(l, put(1, 990+p, "page"))
		}
		// A block fails, is marked, and is told as bad: so the records take two pages, of which the second one is cut.
		b.chip.Arm(api.Faults{Fails: []int{1}, Cuts: []api.Cut{{At: api.MostTx + 4, Keep: keep}}})
		if e := b.Commit(l); e != api.ErrOff {
			t.Fatal(e)
		}
		b.wantMount()
		b.wantSame()
		pages := pagesBehind(t, b.chip, 0)
		if last := pages[len(pages)-1].Tag; last.Kind != api.PageJournal || last.Of != 2 || last.Index != 0 {
			t.Fatal(last)
		}
		for range 3 {
			b.mustCommit(seal(1))
			b.wantMount()
			b.wantSame()
		}
		b.mustCommit(l...)
		b.wantMount()
		b.wantSame()
	}
}

// The newest checkpoint may be cut: then the one ahead of it holds.
func TestCheckpointsThatAreNotWhole(t *testing.T) {
	h := byHand(t, usual, api.Faults{})
	h.tell(api.PageCheck, api.Record{Kind: api.RecMake, Space: 1, N: 9})
	if _, e := h.Append(api.Tag{Kind: api.PageCheck, Seq: h.seq, Of: 2}, "\x05\x01\x01"); e != api.OK {
		t.Fatal(e)
	}
	f := h.mount()
	if e := f.Commit([]api.Change{mk(2, 9)}); e != api.OK {
		t.Fatal(e)
	}
	all, _ := scan.All(h.chip)
	if pages, is := ckpt.Newest(all); !is || pages[0].Tag.Seq != 1 {
		t.Error(pages, is)
	}
	if l := h.mount().State().Spaces(); len(l) != 2 {
		t.Error(l)
	}
}
