package ftl

import (
	"iter"

	"tinderbox/api"
	"tinderbox/victim"
	"tinderbox/wear"
)

// The journal has at most so many blocks' pages.
const journalBlocks = 2

// places are those of a block, one behind the other.
func (f *FTL) places(b int) iter.Seq[int] {
	return func(yield func(int) bool) {
		for p := range f.geometry.Pages {
			if !yield(b*f.geometry.Pages + p) {
				return
			}
		}
	}
}

// stands is at which places of a block something stands.
func (f *FTL) stands(b int) []int {
	var l []int
	for at := range f.places(b) {
		if f.state.Refs(at) > 0 {
			l = append(l, at)
		}
	}
	return l
}

// tellsIn tells whether pages of a block tell what stands where.
func (f *FTL) tellsIn(b int) bool {
	for at := range f.places(b) {
		if f.telling[at] {
			return true
		}
	}
	return false
}

// needed is how many pages of a block are needed.
func (f *FTL) needed(b int) int {
	n := 0
	for at := range f.places(b) {
		if f.telling[at] || f.state.Refs(at) > 0 {
			n++
		}
	}
	return n
}

// makeRoom clears blocks, until there is room for a commit.
func (f *FTL) makeRoom() api.Errno {
	begun := f.chip.Did()
	for f.Free() < f.target(f.chip.Did()-begun) {
		did := f.chip.Did()
		err := f.makeSomeRoom()
		if err == api.ErrFull && f.chip.Did() == did {
			break // with some action blocks failed in it, and others may be cleared yet
		}
		if err != api.OK && err != api.ErrFull {
			return err
		}
	}
	if f.Free() < f.least() {
		return api.ErrFull
	}
	return api.OK
}

// target is how many pages are to be free, when so many actions were taken for that. A call takes at most three for each page of the chip: one for all the room that is wanted, a second one for what there must be.
func (f *FTL) target(did int) int {
	switch pages := len(f.telling); {
	case did < pages:
		return f.wanted()
	case did < 2*pages:
		return f.least()
	}
	return 0
}

// wanted is how many pages are to be free ahead of a commit: for what it puts, and the reserve; where that is less, enough for all blocks that may turn bad in it.
func (f *FTL) wanted() int {
	spare := max(f.room.Spare-f.bads(), 0)
	return max(api.MostTx+f.room.Reserve, f.least()+spare*f.geometry.Pages)
}

// least is how many pages must be free ahead of a commit. The reserve is for two blocks to be cleared: a chip on which records are as long as they may be may keep less of it free, but with enough for one of them more room can be made.
func (f *FTL) least() int { return api.MostTx + f.room.Reserve/2 }

// makeSomeRoom clears a block. If all full ones are full of what is needed, the journal is: a checkpoint takes its place.
func (f *FTL) makeSomeRoom() api.Errno {
	if b := f.choose(); b >= 0 {
		return f.clearBlock(b)
	}
	if f.journal == 0 {
		return api.ErrFull
	}
	return f.save()
}

// choose is the full block that is to be cleared, of those that can be with the pages that are free; below 0: there is none.
func (f *FTL) choose() int {
	var full []api.Seen
	for b := range f.geometry.Blocks {
		if f.writer.Life().Is(b) == api.BlockFull && f.clearTakes(b) <= f.Free() {
			full = append(full, api.Seen{Block: b, Live: f.needed(b), Pages: f.geometry.Pages, Age: int(f.next - f.last[b])})
		}
	}
	i := victim.Empty(full)
	if i < 0 {
		i = victim.Choose(full)
	}
	if i < 0 {
		return i
	}
	return full[i].Block
}

// clearTakes is how many pages it takes at most to clear a block.
func (f *FTL) clearTakes(b int) int {
	n := 0
	if f.tellsIn(b) {
		n += f.checkpointPages()
	}
	if moves := len(f.stands(b)); moves > 0 {
		n += moves + pagesOf(moves*moveLen+len(f.since())*blockLen, f.geometry.Size)
	}
	return n
}

// clearBlock writes what is needed of a block elsewhere, and erases it, unless it is bad.
func (f *FTL) clearBlock(b int) api.Errno {
	if f.clearTakes(b) > f.Free() {
		return api.ErrFull // ahead of its first page: those that are left may be of use yet
	}
	if f.tellsIn(b) {
		if err := f.save(); err != api.OK {
			return err
		}
	}
	if err := f.move(f.stands(b)); err != api.OK {
		return err
	}
	if f.isBad(b) {
		return api.OK
	}
	return f.writer.Erase(b)
}

// move writes what stands at places elsewhere.
func (f *FTL) move(places []int) api.Errno {
	var moves []api.Record
	for _, at := range places {
		s, err := f.ReadAt(at)
		if err != api.OK {
			return err
		}
		to, err := f.writeData(s)
		if err != api.OK {
			return err
		}
		moves = append(moves, api.Record{Kind: api.RecMove, At: at, To: to})
	}
	if len(moves) == 0 {
		return api.OK
	}
	return f.tell(moves)
}

// tidy does what is not needed for a commit, but for those that come: only that the power failed is told of it.
func (f *FTL) tidy() api.Errno {
	for _, part := range []func() api.Errno{f.clearBad, f.shorten, f.level, f.tellBlocks} {
		if err := part(); err == api.ErrOff {
			return err
		}
	}
	return api.OK
}

// clearBad clears bad blocks that are needed; others may turn bad while that is done.
func (f *FTL) clearBad() api.Errno {
	for range f.geometry.Blocks {
		b := f.firstNeededBad()
		if b < 0 {
			return api.OK
		}
		if err := f.clearBlock(b); err != api.OK {
			return err
		}
	}
	return api.OK
}

func (f *FTL) firstNeededBad() int {
	for b := range f.geometry.Blocks {
		if f.isBad(b) && f.needed(b) > 0 {
			return b
		}
	}
	return -1
}

// shorten writes a checkpoint in the place of a journal that is too long.
func (f *FTL) shorten() api.Errno {
	if f.journal <= journalBlocks*f.geometry.Pages {
		return api.OK
	}
	return f.save()
}

// level clears the full block that was erased least often, if others were too much oftener.
func (f *FTL) level() api.Errno {
	full := f.writer.Wears(api.BlockFull)
	cold := wear.Cold(f.writer.Wears(api.BlockFree, api.BlockOpen, api.BlockFull), full, api.Level)
	if cold < 0 {
		return api.OK
	}
	return f.clearBlock(full[cold].Block)
}

// tellBlocks tells what happened to blocks in tidying up: whoever mounts the chip ahead of the next commit would count too few erasures of a block, and wear it down.
func (f *FTL) tellBlocks() api.Errno {
	if len(f.since()) == 0 {
		return api.OK
	}
	return f.tell(nil)
}
