package ftl

import (
	"slices"
	"testing"

	"tinderbox/api"
	"tinderbox/ckpt"
	"tinderbox/life"
	"tinderbox/nand"
	"tinderbox/write"
)

// geometries are chips with little room and with much, with short and long records, with few blocks and many.
func geometries() []api.Geometry {
	return []api.Geometry{
		{Blocks: 16, Pages: 8, Size: 64},
		{Blocks: 17, Pages: 4, Size: 65},
		{Blocks: 9, Pages: 6, Size: 192},
		{Blocks: 10, Pages: 5, Size: 256},
		{Blocks: 12, Pages: 4, Size: 192},
		{Blocks: 8, Pages: 16, Size: 64},
		{Blocks: 8, Pages: 16, Size: 256},
		{Blocks: 24, Pages: 4, Size: 64},
		{Blocks: 32, Pages: 4, Size: 256},
		{Blocks: 32, Pages: 16, Size: 256},
		{Blocks: 31, Pages: 13, Size: 71},
	}
}

// spared is as many blocks as may be bad.
func spared(g api.Geometry) []int {
	var bad []int
	for b := range RoomOf(g).Spare {
		bad = append(bad, b*3+1)
	}
	return bad
}

func (b *bench) text() string {
	s := make([]byte, b.r.Intn(b.g.Size+1))
	b.r.Read(s)
	return string(s)
}

// puts is so many puts into the first pages of space 1.
func (b *bench) puts(n, pages int) []api.Change {
	var l []api.Change
	for range n {
		l = append(l, put(1, b.r.Intn(pages), b.text()))
	}
	return l
}

// anything is changes of all kinds, of which some may not be.
func (b *bench) anything() []api.Change {
	var l []api.Change
	for range 1 + b.r.Intn(1+b.r.Intn(api.MostTx)) {
		l = append(l, b.anyChange())
	}
	return l
}

func (b *bench) anyChange() api.Change {
	space := 1 + b.r.Intn(3)
	page := b.r.Intn(1 + b.r.Intn(b.plain.room.Places+2))
	switch b.r.Intn(40) {
	case 0, 1:
		return mk(space, 1+b.r.Intn(b.plain.room.Places+9))
	case 2:
		return drop(space)
	case 3:
		return double(space, 1+b.r.Intn(3))
	case 4:
		return seal(space)
	case 5, 6:
		return trim(space, page)
	case 7:
		return put(space, page, string(make([]byte, b.g.Size+1)))
	}
	return put(space, page, b.text())
}

// likely is changes that may be, if some are found.
func (b *bench) likely() []api.Change {
	var l []api.Change
	for range 20 {
		l = b.anything()
		if _, e := b.plain.behind(l); e == api.OK {
			return l
		}
	}
	return l
}

// fill puts as many pages as there are places for into space 1, and copies it, so that there are as many pages as may be.
func (b *bench) fill() {
	b.t.Helper()
	n := b.plain.room.Places
	b.mustCommit(mk(1, n))
	for p := range n {
		b.mustCommit(put(1, p, b.text()))
	}
	b.mustCommit(double(1, 2))
}

// turn puts into a chip that is as full as may be: for a while there is no copy.
func (b *bench) turn(n int) {
	b.t.Helper()
	b.mustCommit(drop(2))
	b.mustCommit(b.puts(n, b.plain.room.Places)...)
	b.mustCommit(double(1, 2))
}

// anyCut is a cut in one of the next actions.
func (b *bench) anyCut(span int) api.Cut {
	keep := b.r.Intn(b.g.Size+api.SpareLen+3) - 1
	if b.r.Intn(2) == 0 {
		keep = b.r.Intn(b.g.Pages + 1) // so that erasures are cut within, too
	}
	return api.Cut{At: 1 + b.r.Intn(span), Keep: keep, Fill: []byte{0, 255, 7}[b.r.Intn(3)]}
}

func TestCommitsGoOnWithoutEnd(t *testing.T) {
	for _, g := range geometries() {
		for _, bad := range [][]int{nil, spared(g)} {
			b := newBench(t, g, bad...)
			for range 300 {
				b.wantCommit(b.likely()...)
			}
			b.wantSame()
			b.wantMount()
			b.wantSame()
		}
	}
}

func TestCommitsGoOnOnAChipThatIsFull(t *testing.T) {
	for _, g := range geometries() {
		for _, bad := range [][]int{nil, spared(g)} {
			b := newBench(t, g, bad...)
			b.fill()
			for i := range 60 {
				b.turn(1 + i%api.MostTx)
			}
			b.wantSame()
			b.mustCommit(drop(2))
			for i := range 200 {
				b.mustCommit(b.puts(1+i%api.MostTx, b.plain.room.Places)...)
			}
			b.wantSame()
			b.wantMount()
			b.wantSame()
		}
	}
}

func TestBlocksAreErasedAlike(t *testing.T) {
	for _, g := range geometries() {
		b := newBench(t, g, spared(g)...)
		b.fill()
		b.mustCommit(drop(2))
		for range 1800 { // all pages but two stay as they are
			b.mustCommit(b.puts(api.MostTx, 2)...)
		}
		b.wantSame()
		if slices.Max(b.chip.Worn()) <= 2*api.Level+g.Blocks {
			t.Error(g, "too few erasures to tell anything", b.chip.Worn())
		}
	}
}

func TestBlocksAreErasedAlikeWhoeverMountsThem(t *testing.T) {
	for _, g := range []api.Geometry{{Blocks: 16, Pages: 8, Size: 64}, {Blocks: 32, Pages: 16, Size: 64}, {Blocks: 32, Pages: 4, Size: 256}} {
		b := newBench(t, g)
		b.fill()
		b.mustCommit(drop(2))
		for range 1000 {
			b.mustCommit(b.puts(1, 2)...)
			b.wantMount()
		}
		b.wantSame()
	}
}

func TestBlocksAreErasedAlikeByCheckpointsAlone(t *testing.T) {
	for _, g := range []api.Geometry{{Blocks: 16, Pages: 8, Size: 64}, {Blocks: 9, Pages: 6, Size: 192}} {
		b := newBench(t, g)
		b.fill()
		for range 1500 {
			did := b.chip.Did()
			if e := b.Checkpoint(); e != api.OK || b.Tells() != 0 {
				t.Fatal(g, e, b.Tells())
			}
			b.wantCheap(did)
		}
		b.wantSame()
		b.turn(api.MostTx)
	}
}

// longest is on a chip whose blocks were erased so often that records are as long as they may be.
func longest(t *testing.T, g api.Geometry, bad ...int) *bench {
	t.Helper()
	c, _ := nand.New(g, api.Faults{Bad: bad})
	l, _ := life.New(g.Blocks, g.Pages)
	worn := make([]int, g.Blocks)
	var records []api.Record
	for x := range worn {
		worn[x] = api.MostWorn - 50000
		records = append(records, api.Record{Kind: api.RecWorn, At: x, N: worn[x]})
		if slices.Contains(bad, x) {
			l.Bad(x)
			records = append(records, api.Record{Kind: api.RecBad, At: x})
		}
	}
	w, _ := write.New(c, l, worn)
	if _, _, e := ckpt.Write(w, records, api.PageCheck, 1, g.Size); e != api.OK {
		t.Fatal(e)
	}
	b := newBench(t, g)
	b.chip = c
	b.wantMount()
	return b
}

func TestCommitsGoOnWhereRecordsAreLong(t *testing.T) {
	for _, g := range geometries() {
		b := longest(t, g, spared(g)...)
		n := min(b.plain.room.Places, 256)
		for space := 3; space <= api.MostSpace; space++ {
			b.mustCommit(mk(space, api.MostQuota), seal(space))
		}
		b.mustCommit(mk(1, api.MostQuota))
		for p := range n {
			b.mustCommit(put(1, api.MostQuota-1-p, b.text()))
		}
		for range 40 {
			b.mustCommit(double(1, 2))
			b.mustCommit(drop(2))
			for range 1 + b.r.Intn(3) {
				b.mustCommit(put(1, api.MostQuota-1-b.r.Intn(n), b.text()))
			}
		}
		b.wantSame()
		b.wantMount()
		b.wantSame()
	}
}

func TestPowerFailsInEachActionOfACommit(t *testing.T) {
	cuts := []api.Cut{{}, {Keep: 3, Fill: 7}, {Keep: 90, Fill: 255}, {Keep: 1 << 20}}
	for _, g := range []api.Geometry{{Blocks: 16, Pages: 8, Size: 64}, {Blocks: 24, Pages: 4, Size: 64}} {
		most := 0
		for ahead := range 40 { // some of them need room, some a checkpoint, too
			cut := cuts[ahead%len(cuts)]
			for cut.At = 1; failsAt(t, g, ahead, cut); cut.At++ {
				most = max(most, cut.At)
			}
		}
		if most < api.MostTx+6 { // with room and a checkpoint it takes more than what is put
			t.Error(g, "no commit took more than", most, "actions")
		}
	}
}

// failsAt lets the power fail in a commit, and asks what stands there then; false: the commit has no such action.
func failsAt(t *testing.T, g api.Geometry, ahead int, cut api.Cut) bool {
	t.Helper()
	b := newBench(t, g)
	b.fill()
	b.mustCommit(drop(2))
	for range ahead {
		b.mustCommit(b.puts(2, b.plain.room.Places)...)
	}
	b.chip.Arm(api.Faults{Cuts: []api.Cut{cut}})
	if e := b.wantCommit(b.puts(api.MostTx, b.plain.room.Places)...); e == api.OK {
		return false
	}
	if b.cuts != 1 {
		t.Fatal("the power failed", b.cuts, "times", ahead, cut)
	}
	for range 5 {
		b.mustCommit(b.puts(api.MostTx, b.plain.room.Places)...)
	}
	b.wantSame()
	b.wantMount()
	b.wantSame()
	return true
}

func TestPowerFailsAgainAndAgain(t *testing.T) {
	for _, g := range geometries() {
		for _, bad := range [][]int{nil, spared(g)} {
			b := newBench(t, g, bad...)
			b.fill()
			b.mustCommit(drop(2))
			for range 15 {
				at := b.anyCut(30)
				for range b.r.Intn(20) { // in the same action each time, so that nothing gets beyond it
					cut := b.anyCut(1)
					cut.At = at.At
					b.chip.Arm(api.Faults{Cuts: []api.Cut{cut}})
					b.wantCommit(b.likely()...)
				}
				b.chip.Arm(api.Faults{})
				b.wantCommit(b.likely()...)
			}
			b.wantSame()
		}
	}
}

func TestBlocksFailInEachActionOfACommit(t *testing.T) {
	g := api.Geometry{Blocks: 16, Pages: 8, Size: 64}
	for _, ahead := range []int{0, 40, 47} {
		for _, apart := range []int{2, 3, 9} {
			for at := 1; at < 40; at++ {
				b := newBench(t, g)
				b.fill()
				b.mustCommit(drop(2))
				for range ahead {
					b.mustCommit(b.puts(2, b.plain.room.Places)...)
				}
				b.chip.Arm(api.Faults{Fails: []int{at, at + apart}})
				for range 30 {
					b.mustCommit(b.puts(api.MostTx, b.plain.room.Places)...)
				}
				b.wantSame()
				b.wantNothingInBad()
				b.wantMount()
				b.wantSame()
				if n := b.dead(); n < 1 || n > 2 || n != b.State().Bads() {
					t.Fatal("bad", n, b.State().Bads(), at, apart)
				}
			}
		}
	}
}

// wantNothingInBad asks that nothing that is needed is in a block that is bad.
func (b *bench) wantNothingInBad() {
	b.t.Helper()
	s := b.State()
	for at := range b.g.Blocks * b.g.Pages {
		if x := at / b.g.Pages; s.Bad(x) && (s.Refs(at) > 0 || b.telling[at]) {
			b.t.Fatal(b.g, "call", b.calls, "something stands in block", x)
		}
	}
}

func TestAsManyBlocksFailAtOnceAsMay(t *testing.T) {
	for _, g := range geometries() {
		for seed := range 12 {
			b := newBench(t, g)
			b.fill()
			b.mustCommit(drop(2))
			n := 1 + (api.MostTx-1)*(seed%2)
			for i := 0; i < 100 && b.Free() >= b.wanted()+n+2; i++ { // until little is free
				b.mustCommit(b.puts(n, b.plain.room.Places)...)
			}
			at := 1 + b.r.Intn(12)
			var fails []int
			for i := range b.plain.room.Spare {
				fails = append(fails, at+2*i) // what is between is the mark
			}
			b.chip.Arm(api.Faults{Fails: fails})
			for range 100 {
				b.mustCommit(b.puts(n, b.plain.room.Places)...)
			}
			b.wantSame()
			b.wantMount()
			b.wantSame()
		}
	}
}

func TestAnythingHappens(t *testing.T) {
	for _, g := range geometries() {
		for range 4 {
			b := newBench(t, g)
			seldom := 1 + b.r.Intn(6)
			for range 150 {
				var faults api.Faults
				if b.r.Intn(seldom) == 0 {
					faults.Cuts = append(faults.Cuts, b.anyCut(1+b.r.Intn(50)))
				}
				if b.r.Intn(40) == 0 {
					at := 1 + b.r.Intn(20)
					for range b.plain.room.Spare - b.dead() {
						faults.Fails = append(faults.Fails, at)
						at += 1 + b.r.Intn(4)
					}
				}
				b.chip.Arm(faults)
				b.wantCommit(b.likely()...)
			}
			b.chip.Arm(api.Faults{})
			b.wantSame()
			b.wantMount()
			b.wantSame()
		}
	}
}
