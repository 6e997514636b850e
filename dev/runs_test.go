package dev

import (
	"testing"

	"tinderbox/api"
	"tinderbox/ftl"
)

// geometries are chips with little room and with much, with few blocks and many.
func geometries() []api.Geometry {
	return []api.Geometry{
		usual,
		{Blocks: 12, Pages: 4, Size: 192},
		{Blocks: 9, Pages: 6, Size: 192},
		{Blocks: 24, Pages: 4, Size: 64},
		{Blocks: 8, Pages: 16, Size: 256},
		{Blocks: 31, Pages: 13, Size: 71},
	}
}

// spared is as many blocks as may be bad.
func spared(g api.Geometry) []int {
	var bad []int
	for b := range ftl.RoomOf(g).Spare {
		bad = append(bad, b*3+1)
	}
	return bad
}

func (b *bench) text() string {
	s := make([]byte, b.r.Intn(b.g.Size+1))
	b.r.Read(s)
	return string(s)
}

// record is one that is near to what may be: few spaces, so that changes meet.
func (b *bench) record() api.Record {
	switch b.r.Intn(12) {
	case 0, 1, 2:
		return trim(1+b.r.Intn(4), b.r.Intn(5))
	case 3, 4, 5:
		return mk(1+b.r.Intn(4), 1+b.r.Intn(b.plain.room.Places+2))
	case 6:
		return drop(1 + b.r.Intn(4))
	case 7, 8:
		return double(1+b.r.Intn(4), 1+b.r.Intn(4))
	case 9:
		return seal(1 + b.r.Intn(4))
	}
	return api.Record{Kind: b.r.Intn(11), Space: b.r.Intn(17), Page: b.r.Intn(2), At: b.r.Intn(2), To: b.r.Intn(2), N: b.r.Intn(2)}
}

// change changes something, or tries to.
func (b *bench) change() api.Errno {
	b.t.Helper()
	if b.r.Intn(4) == 0 {
		return b.wantDo(b.record())
	}
	text := b.text()
	if b.r.Intn(30) == 0 {
		text = string(make([]byte, b.g.Size+1))
	}
	return b.wantPut(1+b.r.Intn(4), b.r.Intn(b.plain.room.Places+1)-1, text)
}

// anything does one of all that can be done.
func (b *bench) anything() {
	b.t.Helper()
	switch n := b.r.Intn(40); {
	case n < 4:
		b.wantBegin()
	case n < 7:
		b.wantCommit()
	case n == 7:
		b.wantAbort()
	case n < 16:
		b.wantGet(1+b.r.Intn(4), b.r.Intn(b.plain.room.Places+1)-1)
	case n == 16 && b.r.Intn(4) == 0:
		b.wantMount()
	default:
		b.change()
	}
}

// TestAsThePlainOne: without power cuts each answer is that of the plain device.
func TestAsThePlainOne(t *testing.T) {
	errs := map[api.Errno]int{}
	for _, g := range geometries() {
		for _, bad := range [][]int{nil, spared(g)} {
			b := newBench(t, g, bad...)
			for n := range 4000 {
				b.anything()
				if n%50 == 0 {
					b.wantSame()
				}
			}
			b.wantSame()
			b.wantMount()
			b.wantSame()
			for e, n := range b.errs {
				errs[e] += n
			}
		}
	}
	for _, e := range []api.Errno{
		api.OK, api.ErrInput, api.ErrSpace, api.ErrPage, api.ErrSealed, api.ErrMany, api.ErrRoom, api.ErrLong, api.ErrOpen, api.ErrNone,
	} {
		if errs[e] < 30 {
			t.Errorf("error %d came %d times", e, errs[e])
		}
	}
}

// transaction opens one, with changes of which at least one is done.
func (b *bench) transaction() {
	b.t.Helper()
	if e := b.wantBegin(); e != api.OK {
		b.t.Fatal(b.g, e)
	}
	for n := 1 + b.r.Intn(api.MostTx); n > 0 || b.plain.did == 0; n-- {
		if b.change() != api.OK && b.plain.did == 0 {
			b.wantDo(mk(1+b.r.Intn(4), 1+b.r.Intn(b.plain.room.Places+2)))
		}
	}
	b.wantSame()
}

// ends is how transactions ended: those whose Commit was cut were done, or were not.
type ends struct{ committed, aborted, done, undone, gone int }

// commit commits what is open, where the power may fail, and asks what stands there.
func (b *bench) commit(x *ends) {
	b.t.Helper()
	behind, ahead := b.plain.open, b.plain.stand
	e := b.Commit()
	if b.Busy() {
		b.t.Fatal(b.g, "open behind Commit")
	}
	b.plain.open = nil
	switch e {
	case api.OK:
		x.committed++
		b.plain.stand = behind
		b.wantSame()
		return
	case api.ErrOff:
	default:
		b.t.Fatal(b.g, "commit", e)
	}
	b.wantNothingWithoutPower()
	b.wantMount()
	found := has(b.t, b.Dev)
	switch {
	case found.equals(behind):
		x.done++
		b.plain.stand = behind
	case found.equals(ahead):
		x.undone++
	default:
		b.t.Fatal(b.g, "neither what was ahead of it nor behind it:", b.Spaces())
	}
	// Mounted again it is the same.
	b.wantMount()
	b.wantSame()
}

// wantNothingWithoutPower asks that the device tells that there is none.
func (b *bench) wantNothingWithoutPower() {
	b.t.Helper()
	for what, e := range asked(b.Dev) {
		if e != api.ErrOff {
			b.t.Fatal(b.g, what, e)
		}
	}
}

// anyCut is a cut in one of the next actions.
func (b *bench) anyCut(span int) api.Cut {
	keep := b.r.Intn(b.g.Size+api.SpareLen+3) - 1
	if b.r.Intn(2) == 0 {
		keep = b.r.Intn(b.g.Pages + 1) // so that erasures are cut within, too
	}
	return api.Cut{At: 1 + b.r.Intn(span), Keep: keep, Fill: []byte{0, 255, 7}[b.r.Intn(3)]}
}

// TestTransactionsAreWhole: they are committed, aborted, forgotten by a mount, or lost because the power fails in the midst of a Commit: behind each mount what is there is what was there ahead of one, or behind it.
func TestTransactionsAreWhole(t *testing.T) {
	var x ends
	for _, g := range geometries() {
		for _, bad := range [][]int{nil, spared(g)} {
			b := newBench(t, g, bad...)
			for range 120 {
				b.transaction()
				switch n := b.r.Intn(8); n {
				case 0:
					x.aborted++
					b.wantAbort()
				case 1:
					x.gone++
					b.wantMount()
				case 2, 3:
					b.commit(&x)
				default:
					b.chip.Arm(api.Faults{Cuts: []api.Cut{b.anyCut(4 << b.r.Intn(4))}})
					b.commit(&x)
					b.chip.Arm(api.Faults{})
				}
				b.wantSame()
			}
			b.wantMount()
			b.wantSame()
		}
	}
	if min(x.committed, x.aborted, x.done, x.undone, x.gone) < 20 {
		t.Error("too few of one kind to tell anything", x)
	}
}

// TestPowerFailsInEachActionOfACommit: the last of its actions are those behind which it is done.
func TestPowerFailsInEachActionOfACommit(t *testing.T) {
	for _, cut := range []api.Cut{{}, {Keep: 3, Fill: 7}, {Keep: 90, Fill: 255}, {Keep: 1 << 20}} {
		var x ends
		most := 0
		for ahead := range 40 { // some of them need room, some a checkpoint, too
			for cut.At = 1; failsAt(t, ahead, cut, &x); cut.At++ {
				most = max(most, cut.At)
			}
		}
		if x.undone < 3*40 || x.committed != 40 || most < 8 {
			t.Error("too few actions to tell anything", cut, x, most)
		}
		if cut.Keep >= usual.Size+api.SpareLen && x.done == 0 { // the page is whole that does it
			t.Error(cut, x)
		}
	}
}

// failsAt lets the power fail in a commit of all kinds of changes, and asks what stands there then; false: it has no such action.
func failsAt(t *testing.T, ahead int, cut api.Cut, x *ends) bool {
	t.Helper()
	b := filled(t)
	for n := range ahead {
		b.did(b.puts(1, n%4, b.text()), b.puts(1, 3-n%4, b.text()))
	}
	b.wantBegin()
	for _, do := range []func() api.Errno{
		b.puts(1, 0, "other"), b.does(mk(5, 5)), b.puts(5, 4, "new"), b.puts(1, 3, "new"),
		b.does(drop(2)), b.does(double(1, 2)), b.does(trim(1, 0)), b.does(seal(5)),
	} {
		mustBe(t, "change", do(), api.OK)
	}
	b.chip.Arm(api.Faults{Cuts: []api.Cut{cut}})
	was := x.committed
	b.commit(x)
	b.chip.Arm(api.Faults{})
	// It goes on with whatever stands there.
	b.did(b.does(mk(9, 1)), b.puts(9, 0, "behind"))
	b.wantSame()
	b.wantMount()
	b.wantSame()
	return x.committed == was
}

// TestPowerFailsAgainAndAgain: in the same action each time, and in mounting, too.
func TestPowerFailsAgainAndAgain(t *testing.T) {
	for _, g := range geometries() {
		b := newBench(t, g)
		var x ends
		for range 25 {
			at := 1 + b.r.Intn(1+b.r.Intn(20))
			for range b.r.Intn(12) {
				b.transaction()
				cut := b.anyCut(1)
				cut.At = at
				b.chip.Arm(api.Faults{Cuts: []api.Cut{cut}})
				b.commit(&x)
			}
			b.chip.Arm(api.Faults{})
			b.transaction()
			b.commit(&x)
		}
		b.wantMount()
		b.wantSame()
		if x.undone+x.done < 20 || x.committed < 25 {
			t.Error(g, "too few of one kind to tell anything", x)
		}
	}
}

// TestBlocksFail: while no more blocks are bad than may be, nothing is told of it.
func TestBlocksFail(t *testing.T) {
	for _, g := range geometries() {
		b := newBench(t, g)
		for range b.plain.room.Spare {
			b.chip.Arm(api.Faults{Fails: []int{1 + b.r.Intn(30)}})
			for range 60 {
				b.transaction()
				b.wantCommit()
				b.wantSame()
			}
		}
		b.wantMount()
		b.wantSame()
		if b.FTL().State().Bads() == 0 {
			t.Error(g, "no block failed")
		}
	}
}
