package ckpt

import (
	"sort"

	"tinderbox/api"
	"tinderbox/group"
	"tinderbox/write"
)

// plainWrite writes page by page, as the chapter tells it.
func plainWrite(w *write.Writer, l []api.Record, kind int, seq uint64, size int) ([]int, uint64, api.Errno) {
	texts := group.Pack(l, size)
	var places []int
	for i := 0; i < len(texts); i++ {
		t := api.Tag{Kind: kind, Seq: seq, Index: i, Of: len(texts)}
		if kind != api.PageCheck {
			t.Seq += uint64(i)
		}
		at, e := w.Append(t, texts[i])
		if e != api.OK {
			return nil, t.Seq + 1, e
		}
		places = append(places, at)
	}
	if kind == api.PageCheck {
		return places, seq + 1, api.OK
	}
	return places, seq + uint64(len(texts)), api.OK
}

// plainNewest asks for each Seq, from the greatest on, whether there is a page for each Index.
func plainNewest(l []api.Found) ([]api.Found, bool) {
	var seqs []uint64
	for _, f := range l {
		seqs = append(seqs, f.Tag.Seq)
	}
	sort.Slice(seqs, func(i, j int) bool { return seqs[i] > seqs[j] })
	for _, seq := range seqs {
		for _, f := range l {
			if f.Class != api.ClassValid || f.Tag.Kind != api.PageCheck || f.Tag.Seq != seq || f.Tag.Index < 0 || f.Tag.Index >= f.Tag.Of {
				continue
			}
			if pages := plainPages(l, seq, f.Tag.Of); pages != nil {
				return pages, true
			}
		}
	}
	return nil, false
}

// plainPages looks for each Index from the end of the list on; nil, if one is not there.
func plainPages(l []api.Found, seq uint64, of int) []api.Found {
	var pages []api.Found
	for index := 0; index < of; index++ {
		at := len(l) - 1
		for ; at >= 0; at-- {
			f := l[at]
			if f.Class == api.ClassValid && f.Tag.Kind == api.PageCheck && f.Tag.Seq == seq && f.Tag.Of == of && f.Tag.Index == index {
				break
			}
		}
		if at < 0 {
			return nil
		}
		pages = append(pages, l[at])
	}
	return pages
}
