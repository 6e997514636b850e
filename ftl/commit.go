package ftl

import (
	"tinderbox/api"
	"tinderbox/state"
)

// Checkpoint writes all that stands where, so that nothing ahead of that is needed any more.
func (f *FTL) Checkpoint() api.Errno {
	if err := f.refuses(); err != api.OK {
		return err
	}
	err := f.checkpoint()
	f.lost = err == api.ErrOff
	return err
}

// Commit does changes, all at once.
func (f *FTL) Commit(l []api.Change) api.Errno {
	if err := f.refuses(); err != api.OK {
		return err
	}
	if err := f.refusesChanges(l); err != api.OK {
		return err
	}
	err := f.commit(l)
	f.lost = err == api.ErrOff
	return err
}

// refuses is why nothing can be written, whatever it is.
func (f *FTL) refuses() api.Errno {
	switch {
	case f.isNone():
		return api.ErrInput
	case f.lost || f.chip.Off():
		return api.ErrOff
	}
	return api.OK
}

// refusesChanges is why changes may not be, ahead of whether there is room.
func (f *FTL) refusesChanges(l []api.Change) api.Errno {
	if len(l) > api.MostTx {
		return api.ErrInput
	}
	for _, c := range l {
		if !f.mayBe(c) {
			return api.ErrInput
		}
	}
	after := f.state.Copy()
	for i, c := range l {
		if err := attempt(after, c.Record, api.MostAt+i); err != api.OK {
			return err
		}
	}
	if after.Live() > f.room.Places || after.Keys() > f.room.Keys {
		return api.ErrFull
	}
	return api.OK
}

// mayBe tells whether a change is of a kind that may be, with a text that may be.
func (f *FTL) mayBe(c api.Change) bool {
	switch c.Record.Kind {
	case api.RecPut:
		return len(c.Text) <= f.geometry.Size
	case api.RecTrim, api.RecMake, api.RecDrop, api.RecCopy, api.RecSeal:
		return c.Text == ""
	}
	return false
}

// attempt does a record on a state; what is put stands at a place of its own, that no chip has.
func attempt(s *state.State, r api.Record, at int) api.Errno {
	if r.Kind != api.RecPut {
		return s.Apply(r)
	}
	r.At = 0 // it is not looked at, but all else of the record is
	if err := s.Apply(r); err != api.OK {
		return err
	}
	return s.Lay(r.Space, r.Page, at)
}

// checkpoint writes one. Room is made ahead of it, as for a commit, and blocks are levelled, so that checkpoints alone wear none down; a chip on which that can't be done may still have enough for it.
func (f *FTL) checkpoint() api.Errno {
	if !f.isWorn() {
		for _, part := range []func() api.Errno{f.makeRoom, f.level} {
			if err := part(); err == api.ErrOff {
				return err
			}
		}
	}
	if err := f.save(); err != api.OK {
		return f.reason(err)
	}
	return api.OK
}

// commit does changes that may be.
func (f *FTL) commit(l []api.Change) api.Errno {
	if f.isWorn() {
		return api.ErrWorn
	}
	if err := f.makeRoom(); err != api.OK || f.isWorn() {
		return f.reason(err)
	}
	records, err := f.put(l)
	if err == api.OK {
		err = f.tell(records)
	}
	if err != api.OK {
		return f.reason(err)
	}
	return f.tidy()
}

// put writes what is put: the records of changes, with where that stands.
func (f *FTL) put(l []api.Change) ([]api.Record, api.Errno) {
	var records []api.Record
	for _, c := range l {
		r := c.Record
		if r.Kind == api.RecPut {
			at, err := f.writeData(c.Text)
			if err != api.OK {
				return nil, err
			}
			r.At = at
		}
		records = append(records, r)
	}
	return records, api.OK
}
