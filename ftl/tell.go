package ftl

import (
	"tinderbox/api"
	"tinderbox/ckpt"
	"tinderbox/state"
)

// writeData writes a page of data: where it stands.
func (f *FTL) writeData(s string) (int, api.Errno) {
	t := api.Tag{Kind: api.PageData, Seq: f.next, Of: 1}
	// With an error, too, the chip may have the page whole.
	f.next++
	at, err := f.writer.Append(t, s)
	if err != api.OK {
		return 0, err
	}
	f.wrote(at, t.Seq)
	return at, api.OK
}

// tell writes records, behind what happened to blocks since, into the journal, and does them.
func (f *FTL) tell(l []api.Record) api.Errno {
	l = append(f.since(), l...)
	// What could not be done again must not be written.
	after, err := f.behind(l)
	if err != api.OK {
		return err
	}
	at, err := f.writeRecords(l, api.PageJournal)
	if err != api.OK {
		return err
	}
	f.state = after
	f.journal += len(at)
	f.nowTell(at)
	return api.OK
}

// save writes a checkpoint, with what happened to blocks since.
func (f *FTL) save() api.Errno {
	if f.checkpointPages() > f.Free() {
		return api.ErrFull // ahead of its first page: those that are left may be of use yet
	}
	after, err := f.behind(f.since())
	if err != api.OK {
		return err
	}
	at, err := f.writeRecords(after.Dump(), api.PageCheck)
	if err != api.OK {
		return err
	}
	f.state = after
	f.journal = 0
	clear(f.telling)
	f.nowTell(at)
	return api.OK
}

// nowTell notes that pages at places tell what stands where.
func (f *FTL) nowTell(places []int) {
	for _, at := range places {
		f.telling[at] = true
	}
}

// checkpointPages is how many pages a checkpoint takes at most.
func (f *FTL) checkpointPages() int {
	return pagesOf(checkpointLen(f.state.Keys(), len(f.state.Spaces()), f.geometry.Blocks), f.geometry.Size)
}

// since is what happened to blocks of which no page tells yet.
func (f *FTL) since() []api.Record {
	var l []api.Record
	for b, n := range f.writer.Worn() {
		if f.isBad(b) && !f.state.Bad(b) {
			l = append(l, api.Record{Kind: api.RecBad, At: b})
		}
		if n = min(n, api.MostWorn); n > f.state.Worn(b) {
			l = append(l, api.Record{Kind: api.RecWorn, At: b, N: n})
		}
	}
	return l
}

// behind is the state behind records.
func (f *FTL) behind(l []api.Record) (*state.State, api.Errno) {
	after := f.state.Copy()
	for _, r := range l {
		if err := after.Apply(r); err != api.OK {
			return nil, err
		}
	}
	return after, api.OK
}

// writeRecords writes records as pages that belong together: where they stand.
func (f *FTL) writeRecords(l []api.Record, kind int) ([]int, api.Errno) {
	first := f.next
	at, next, err := ckpt.Write(f.writer, l, kind, first, f.geometry.Size)
	f.next = next
	if err != api.OK {
		return nil, err
	}
	for i, place := range at {
		// The journal's rise up to the next one, those of a checkpoint have the same.
		f.wrote(place, min(first+uint64(i), next-1))
	}
	return at, api.OK
}

// wrote notes when a place's block was written last.
func (f *FTL) wrote(at int, seq uint64) {
	f.last[at/f.geometry.Pages] = seq
}
