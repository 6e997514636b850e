package scan

import (
	"tinderbox/api"
	"tinderbox/ckpt"
	"tinderbox/group"
	"tinderbox/state"
)

// plainImage is what pages come to, laid open.
type plainImage struct {
	dump  []api.Record
	next  uint64
	check uint64
	meta  []int
}

// plainRebuild lays out first which pages tell it, and does their records then.
func plainRebuild(l []api.Found) (plainImage, api.Errno) {
	newest, is := ckpt.Newest(l)
	if !is {
		return plainImage{}, api.ErrBlank
	}
	m := plainImage{check: newest[0].Tag.Seq}
	for _, f := range l {
		if f.Class == api.ClassValid && f.Tag.Seq > m.next {
			m.next = f.Tag.Seq
		}
	}
	m.next++
	sets := append([][]api.Found{newest}, plainGroups(plainJournal(l, m.check))...)
	s := state.New()
	for _, set := range sets {
		var texts []string
		for _, f := range set {
			texts = append(texts, f.Text)
			m.meta = append(m.meta, f.At)
		}
		records, e := group.Unpack(texts...)
		for i := 0; e == api.OK && i < len(records); i++ {
			e = s.Apply(records[i])
		}
		if e != api.OK {
			return plainImage{}, e
		}
	}
	m.dump = s.Dump()
	return m, api.OK
}

// plainJournal takes the first page of the least Seq out of those that are left, until none is.
func plainJournal(l []api.Found, check uint64) []api.Found {
	var left, out []api.Found
	for _, f := range l {
		if f.Class == api.ClassValid && f.Tag.Kind == api.PageJournal && f.Tag.Seq > check {
			left = append(left, f)
		}
	}
	for len(left) > 0 {
		least := 0
		for i := range left {
			if left[i].Tag.Seq < left[least].Tag.Seq {
				least = i
			}
		}
		out = append(out, left[least])
		left = append(append([]api.Found(nil), left[:least]...), left[least+1:]...)
	}
	return out
}

// plainGroups gathers page by page: one that is not the next of the group that is being gathered lets that be lost.
func plainGroups(pages []api.Found) [][]api.Found {
	var groups [][]api.Found
	var open []api.Found
	for _, f := range pages {
		if n := len(open); n > 0 {
			last := open[n-1].Tag
			if f.Tag.Of != last.Of || f.Tag.Seq != last.Seq+1 || f.Tag.Index != last.Index+1 {
				open = nil
			}
		}
		if len(open) == 0 && (f.Tag.Index != 0 || f.Tag.Of < 1) {
			continue
		}
		open = append(open, f)
		if len(open) == f.Tag.Of {
			groups = append(groups, open)
			open = nil
		}
	}
	return groups
}
