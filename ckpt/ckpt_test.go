package ckpt

import (
	"math"
	"math/rand"
	"slices"
	"strconv"
	"testing"

	"tinderbox/api"
	"tinderbox/group"
	"tinderbox/life"
	"tinderbox/nand"
	"tinderbox/page"
	"tinderbox/write"
)

var small = api.Geometry{Blocks: 8, Pages: 4, Size: 64}

// bench is a writer with what it was made of.
type bench struct {
	*write.Writer
	chip *nand.Chip
	life *life.Life
}

func made(t *testing.T, g api.Geometry, f api.Faults, worn []int) bench {
	t.Helper()
	c, e := nand.New(g, f)
	if e != api.OK {
		t.Fatal(e)
	}
	l, e := life.New(g.Blocks, g.Pages)
	if e != api.OK {
		t.Fatal(e)
	}
	w, e := write.New(c, l, worn)
	if e != api.OK {
		t.Fatal(e)
	}
	return bench{w, c, l}
}

func fresh(t *testing.T, f api.Faults) bench {
	t.Helper()
	return made(t, small, f, make([]int, small.Blocks))
}

// rows is so many records, of nine bytes each: seven fit into 64 bytes.
func rows(n int) []api.Record {
	l := make([]api.Record, n)
	for i := range l {
		l[i] = api.Record{Kind: api.RecPut, Space: 1 + i%15, Page: 256 + i%700, At: 256 + i%200}
	}
	return l
}

// valid is all valid pages of a chip, in the order of their places.
func (w bench) valid() []api.Found {
	g := w.chip.Geometry()
	var out []api.Found
	for at := range g.Blocks * g.Pages {
		data, spare, e := w.chip.Read(at/g.Pages, at%g.Pages)
		if class, tag, s := page.Look(data, spare); e == api.OK && class == api.ClassValid {
			out = append(out, api.Found{At: at, Class: class, Tag: tag, Text: s})
		}
	}
	return out
}

// erased is how many pages of a chip are erased.
func (w bench) erased() int {
	g := w.chip.Geometry()
	n := 0
	for at := range g.Blocks * g.Pages {
		data, spare, _ := w.chip.Read(at/g.Pages, at%g.Pages)
		if class, _, _ := page.Look(data, spare); class == api.ClassErased {
			n++
		}
	}
	return n
}

func TestWritten(t *testing.T) {
	texts := group.Pack(rows(28), 64)
	if len(texts) != 4 {
		t.Fatal(len(texts))
	}
	for _, c := range []struct {
		name string
		kind int
		seq  uint64
		seqs []uint64
		next uint64
	}{
		{"a journal", api.PageJournal, 9, []uint64{9, 10, 11, 12}, 13},
		{"data", api.PageData, 9, []uint64{9, 10, 11, 12}, 13},
		{"a checkpoint", api.PageCheck, 9, []uint64{9, 9, 9, 9}, 10},
		{"a journal from 0 on", api.PageJournal, 0, []uint64{0, 1, 2, 3}, 4},
		{"a checkpoint of 0", api.PageCheck, 0, []uint64{0, 0, 0, 0}, 1},
		{"a journal of great ones", api.PageJournal, math.MaxUint64 - 4, []uint64{math.MaxUint64 - 4, math.MaxUint64 - 3, math.MaxUint64 - 2, math.MaxUint64 - 1}, math.MaxUint64},
		{"a checkpoint of a great one", api.PageCheck, math.MaxUint64 - 1, []uint64{math.MaxUint64 - 1, math.MaxUint64 - 1, math.MaxUint64 - 1, math.MaxUint64 - 1}, math.MaxUint64},
		{"a journal across 32 bits", api.PageJournal, math.MaxUint32 - 1, []uint64{math.MaxUint32 - 1, math.MaxUint32, math.MaxUint32 + 1, math.MaxUint32 + 2}, math.MaxUint32 + 3},
	} {
		t.Run(c.name, func(t *testing.T) {
			w := fresh(t, api.Faults{})
			at, next, e := Write(w.Writer, rows(28), c.kind, c.seq, 64)
			if e != api.OK || !slices.Equal(at, []int{0, 1, 2, 3}) || next != c.next {
				t.Fatal(at, next, e)
			}
			for i, n := range at {
				tag, s, e := w.Read(n)
				if want := (api.Tag{Kind: c.kind, Seq: c.seqs[i], Index: i, Of: 4}); e != api.OK || tag != want || s != texts[i] {
					t.Error(i, tag, want, s, e)
				}
			}
			if len(w.valid()) != 4 || w.erased() != 28 {
				t.Error("other pages were written")
			}
		})
	}
}

func TestWrittenOfSoMany(t *testing.T) {
	for _, c := range []struct{ records, size, pages int }{
		{0, 64, 1},
		{1, 64, 1},
		{7, 64, 1},
		{8, 64, 2},
		{14, 64, 2},
		{15, 64, 3},
		{7 * 32, 64, 32},
		{7, 63, 1},
		{7, 62, 2},
		{3, 10, 3},
		{3, 1, 3},
		{3, 0, 3},
		{3, -1, 3},
		{3, math.MinInt, 3},
		{0, 0, 1},
		{0, -1, 1},
		{7, math.MaxInt, 1}, // more than a page has, but they fit into one
	} {
		for _, kind := range []int{api.PageJournal, api.PageCheck} {
			l := rows(c.records)
			w := fresh(t, api.Faults{})
			at, next, e := Write(w.Writer, l, kind, 100, c.size)
			wantNext := uint64(100 + c.pages)
			if kind == api.PageCheck {
				wantNext = 101
			}
			if e != api.OK || len(at) != c.pages || next != wantNext {
				t.Error(c, kind, at, next, e)
			}
			var texts []string
			for i, n := range at {
				tag, s, e := w.Read(n)
				if e != api.OK || tag.Index != i || tag.Of != c.pages || tag.Kind != kind {
					t.Error(c, i, tag, e)
				}
				texts = append(texts, s)
			}
			if !slices.Equal(texts, group.Pack(l, c.size)) {
				t.Error(c, kind, "other texts were written")
			}
			if back, e := group.Unpack(texts...); e != api.OK || !slices.Equal(back, l) {
				t.Error(c, kind, "came back as", len(back), e)
			}
		}
	}
}

func TestWrittenByTheWriter(t *testing.T) {
	t.Run("the tag has the block's count, and the least worn one is taken", func(t *testing.T) {
		w := made(t, small, api.Faults{}, []int{9, 8, 7, 6, 5, 4, 3, 2})
		at, next, e := Write(w.Writer, rows(35), api.PageJournal, 3, 64)
		if e != api.OK || !slices.Equal(at, []int{28, 29, 30, 31, 24}) || next != 8 {
			t.Fatal(at, next, e)
		}
		for i, n := range at {
			if tag, _, _ := w.Read(n); tag.Worn != 2+i/4 {
				t.Error(n, tag)
			}
		}
	})
	t.Run("behind what stands there", func(t *testing.T) {
		w := fresh(t, api.Faults{})
		if at, next, e := Write(w.Writer, rows(8), api.PageJournal, 5, 64); e != api.OK || !slices.Equal(at, []int{0, 1}) || next != 7 {
			t.Fatal(at, next, e)
		}
		if at, next, e := Write(w.Writer, rows(15), api.PageCheck, 7, 64); e != api.OK || !slices.Equal(at, []int{2, 3, 4}) || next != 8 {
			t.Fatal(at, next, e)
		}
		if at, next, e := Write(w.Writer, nil, api.PageJournal, 8, 64); e != api.OK || !slices.Equal(at, []int{5}) || next != 9 {
			t.Fatal(at, next, e)
		}
	})
	t.Run("a block fails", func(t *testing.T) {
		for _, kind := range []int{api.PageJournal, api.PageCheck} {
			w := fresh(t, api.Faults{Fails: []int{3}}) // the third page; the mark is no failure
			at, next, e := Write(w.Writer, rows(28), kind, 40, 64)
			if e != api.OK || !slices.Equal(at, []int{0, 1, 4, 5}) {
				t.Fatal(at, next, e)
			}
			if kind == api.PageCheck && next != 41 || kind == api.PageJournal && next != 44 {
				t.Error(kind, next)
			}
			for i, f := range w.valid() {
				if f.At != at[i] || f.Tag.Index != i || kind == api.PageJournal && f.Tag.Seq != uint64(40+i) {
					t.Error(i, f)
				}
			}
			if bads := w.Bads(); !slices.Equal(bads, []int{0}) {
				t.Error(bads)
			}
		}
	})
	t.Run("records that may not be are passed over", func(t *testing.T) {
		w := fresh(t, api.Faults{})
		l := append([]api.Record{{}, {Kind: 99}}, rows(1)...)
		at, next, e := Write(w.Writer, l, api.PageJournal, 1, 64)
		if e != api.OK || len(at) != 1 || next != 2 {
			t.Fatal(at, next, e)
		}
		_, s, _ := w.Read(at[0])
		if back, _ := group.Unpack(s); !slices.Equal(back, rows(1)) {
			t.Error(back)
		}
	})
}

func wantNothing(t *testing.T, at []int, next, wantNext uint64, e, want api.Errno) {
	t.Helper()
	if e != want || len(at) != 0 || next != wantNext {
		t.Fatal("got", at, next, e, "want", wantNext, want)
	}
}

func TestWriteRefused(t *testing.T) {
	t.Run("no writer", func(t *testing.T) {
		at, next, e := Write(nil, rows(30), api.PageJournal, 5, 64)
		wantNothing(t, at, next, 6, e, api.ErrInput)
		at, next, e = Write(nil, nil, api.PageCheck, 0, 0)
		wantNothing(t, at, next, 1, e, api.ErrInput)
		at, next, e = Write(&write.Writer{}, rows(30), api.PageJournal, 5, 64)
		wantNothing(t, at, next, 6, e, api.ErrInput)
		at, next, e = Write(&write.Writer{}, nil, api.PageCheck, 0, 0)
		wantNothing(t, at, next, 1, e, api.ErrFull)
	})
	t.Run("no such kind", func(t *testing.T) {
		for _, kind := range []int{0, 4, -1, 257, 259, math.MaxInt, math.MinInt} {
			w := fresh(t, api.Faults{})
			at, next, e := Write(w.Writer, rows(30), kind, 5, 64)
			wantNothing(t, at, next, 6, e, api.ErrInput)
			if w.chip.Did() != 0 || w.erased() != 32 {
				t.Error(kind, "something was written")
			}
		}
	})
	t.Run("more pages than a tag has", func(t *testing.T) {
		w := fresh(t, api.Faults{})
		at, next, e := Write(w.Writer, rows(65536), api.PageJournal, 5, 1)
		wantNothing(t, at, next, 6, e, api.ErrInput)
		if w.chip.Did() != 0 {
			t.Error("something was written")
		}
		at, next, e = Write(w.Writer, rows(65535), api.PageJournal, 5, 1)
		wantNothing(t, at, next, 5+32+1, e, api.ErrFull)
	})
	t.Run("a text that no page has room for", func(t *testing.T) {
		w := fresh(t, api.Faults{})
		at, next, e := Write(w.Writer, rows(8), api.PageJournal, 5, 80)
		wantNothing(t, at, next, 6, e, api.ErrInput)
		if w.erased() != 32 {
			t.Error("something was written")
		}
	})
	t.Run("the second text has no room in a page", func(t *testing.T) {
		l := append(rows(14), api.Record{Kind: api.RecDrop, Space: 3}, api.Record{Kind: api.RecDrop, Space: 4})
		w := fresh(t, api.Faults{})
		at, next, e := Write(w.Writer, l, api.PageJournal, 5, 66)
		wantNothing(t, at, next, 7, e, api.ErrInput)
		at, next, e = Write(w.Writer, l, api.PageCheck, 5, 66)
		wantNothing(t, at, next, 6, e, api.ErrInput)
		if found := w.valid(); len(found) != 2 || found[0].Tag.Of != 3 {
			t.Error(found)
		}
	})
}

func TestWriteWithoutRoom(t *testing.T) {
	for pages := 33; pages < 40; pages++ {
		w := fresh(t, api.Faults{})
		at, next, e := Write(w.Writer, rows(7*pages), api.PageJournal, 50, 64)
		wantNothing(t, at, next, 50+33, e, api.ErrFull)
		found := w.valid()
		if len(found) != 32 || found[31].Tag.Seq != 81 || found[31].Tag.Of != pages {
			t.Error(len(found), found[31])
		}
		at, next, e = Write(w.Writer, nil, api.PageJournal, next, 64)
		wantNothing(t, at, next, 84, e, api.ErrFull)
		w = fresh(t, api.Faults{})
		at, next, e = Write(w.Writer, rows(7*pages), api.PageCheck, 50, 64)
		wantNothing(t, at, next, 51, e, api.ErrFull)
		if _, is := Newest(w.valid()); is {
			t.Error("a checkpoint that lacks pages is whole")
		}
	}
}

// A page in which the power fails at its very end is there nevertheless: the next Seq must be beyond that one.
func TestWriteCut(t *testing.T) {
	for _, kind := range []int{api.PageJournal, api.PageCheck, api.PageData} {
		for in := 1; in <= 4; in++ {
			for _, keep := range []int{-1, 0, 1, 50, 64, 95, 96, 200} {
				w := fresh(t, api.Faults{Cuts: []api.Cut{{At: in, Keep: keep, Fill: 7}}})
				at, next, e := Write(w.Writer, rows(28), kind, 70, 64)
				want := uint64(70 + in)
				if kind == api.PageCheck {
					want = 71
				}
				wantNothing(t, at, next, want, e, api.ErrOff)
				w.chip.Power()
				found := w.valid()
				if whole := keep >= 96; whole && len(found) != in || !whole && len(found) != in-1 {
					t.Error(kind, in, keep, len(found))
				}
				for _, f := range found {
					if f.Tag.Seq >= next {
						t.Error(kind, in, keep, "the next one is", next, "and there is", f.Tag)
					}
				}
			}
		}
	}
}

func TestWriteCutInAMark(t *testing.T) {
	w := fresh(t, api.Faults{Fails: []int{2}, Cuts: []api.Cut{{At: 3}}})
	at, next, e := Write(w.Writer, rows(28), api.PageJournal, 70, 64)
	wantNothing(t, at, next, 72, e, api.ErrOff)
	at, next, e = Write(w.Writer, rows(28), api.PageJournal, next, 64)
	wantNothing(t, at, next, 73, e, api.ErrOff)
	w.chip.Power()
	if at, next, e = Write(w.Writer, rows(28), api.PageJournal, next, 64); e != api.OK || !slices.Equal(at, []int{5, 6, 7, 8}) || next != 77 {
		t.Error(at, next, e)
	}
}

func TestWriteLeavesItsInput(t *testing.T) {
	w := fresh(t, api.Faults{})
	l := rows(28)
	at, _, _ := Write(w.Writer, l, api.PageCheck, 1, 64)
	if !slices.Equal(l, rows(28)) {
		t.Error("the records were changed")
	}
	before := w.valid()
	clear(l)
	for i := range at {
		at[i] = -1
	}
	if !slices.Equal(w.valid(), before) {
		t.Error("what stands there hangs on what was handed over")
	}
	if at, _, e := Write(w.Writer, rows(1), api.PageCheck, 2, 64); e != api.OK || !slices.Equal(at, []int{4}) {
		t.Error(at, e)
	}
}

func TestWriteAsThePlainOne(t *testing.T) {
	r := rand.New(rand.NewSource(14))
	for range 1500 {
		var f api.Faults
		for range r.Intn(4) {
			f.Fails = append(f.Fails, 1+r.Intn(40))
		}
		for range r.Intn(3) {
			f.Cuts = append(f.Cuts, api.Cut{At: 1 + r.Intn(40), Keep: r.Intn(120) - 5, Fill: byte(r.Intn(256))})
		}
		worn := make([]int, small.Blocks)
		for b := range worn {
			worn[b] = r.Intn(4)
		}
		w, plain := made(t, small, f, worn), made(t, small, f, worn)
		seq := r.Uint64() >> uint(r.Intn(64))
		for range 1 + r.Intn(8) {
			l := rows(r.Intn(50))
			for i := range l {
				if r.Intn(3) == 0 {
					l[i] = api.Record{Kind: api.RecDrop, Space: r.Intn(17)}
				}
			}
			kind, size := r.Intn(5), 20+r.Intn(46)
			at, next, e := Write(w.Writer, l, kind, seq, size)
			wantAt, wantNext, want := plainWrite(plain.Writer, l, kind, seq, size)
			if e != want || next != wantNext || !slices.Equal(at, wantAt) {
				t.Fatal(at, next, e, "want", wantAt, wantNext, want)
			}
			seq = next
			if r.Intn(3) == 0 {
				w.chip.Power()
				plain.chip.Power()
			}
		}
		w.chip.Power()
		plain.chip.Power()
		if !slices.Equal(w.valid(), plain.valid()) {
			t.Fatal("other pages stand there")
		}
	}
}

// check is a page of a checkpoint as it was found at a place.
func check(at int, seq uint64, index, of int) api.Found {
	return api.Found{At: at, Class: api.ClassValid, Tag: api.Tag{Kind: api.PageCheck, Seq: seq, Index: index, Of: of, Worn: at % 3}, Text: "at " + strconv.Itoa(at)}
}

func classed(f api.Found, class int) api.Found {
	f.Class = class
	return f
}

func kinded(f api.Found, kind int) api.Found {
	f.Tag.Kind = kind
	return f
}

func places(l []api.Found) []int {
	var out []int
	for _, f := range l {
		out = append(out, f.At)
	}
	return out
}

func TestNewest(t *testing.T) {
	for _, c := range []struct {
		name string
		l    []api.Found
		want []int
	}{
		{"one page", []api.Found{check(3, 9, 0, 1)}, []int{3}},
		{"the first of all, 0", []api.Found{check(3, 0, 0, 1)}, []int{3}},
		{"the greatest there is", []api.Found{check(3, math.MaxUint64, 0, 1), check(4, 1, 0, 1)}, []int{3}},
		{"three pages in order", []api.Found{check(3, 9, 0, 3), check(4, 9, 1, 3), check(5, 9, 2, 3)}, []int{3, 4, 5}},
		{"three pages out of order", []api.Found{check(3, 9, 2, 3), check(4, 9, 0, 3), check(5, 9, 1, 3)}, []int{4, 5, 3}},
		{"the newer one behind", []api.Found{check(3, 9, 0, 1), check(4, 10, 0, 1)}, []int{4}},
		{"the newer one ahead", []api.Found{check(3, 10, 0, 1), check(4, 9, 0, 1)}, []int{3}},
		{"the newer one in the midst", []api.Found{check(3, 9, 0, 1), check(4, 11, 0, 1), check(5, 10, 0, 1)}, []int{4}},
		{"the newer one has more pages", []api.Found{check(3, 9, 0, 1), check(4, 10, 1, 2), check(5, 10, 0, 2)}, []int{5, 4}},
		{"the newer one has fewer pages", []api.Found{check(3, 9, 0, 2), check(4, 10, 0, 1), check(5, 9, 1, 2)}, []int{4}},
		{"Seq as a number without a sign", []api.Found{check(3, 1<<63, 0, 1), check(4, 1<<63-1, 0, 1)}, []int{3}},
		{"the newer one lacks its last page", []api.Found{check(3, 9, 0, 2), check(4, 9, 1, 2), check(5, 10, 0, 2)}, []int{3, 4}},
		{"the newer one lacks its first page", []api.Found{check(3, 9, 0, 2), check(4, 9, 1, 2), check(5, 10, 1, 2)}, []int{3, 4}},
		{"the newer one lacks one in the midst", []api.Found{check(3, 10, 0, 3), check(4, 10, 2, 3), check(5, 9, 0, 1)}, []int{5}},
		{"a page twice is not two pages", []api.Found{check(3, 10, 0, 2), check(4, 10, 0, 2), check(5, 9, 0, 1)}, []int{5}},
		{"of several of one Index the last one", []api.Found{check(3, 9, 0, 2), check(4, 9, 1, 2), check(5, 9, 0, 2)}, []int{5, 4}},
		{"of three of one Index the last one", []api.Found{check(3, 9, 0, 1), check(8, 9, 0, 1), check(5, 9, 0, 1)}, []int{5}},
		{"the last in the list, not the one of the greatest place", []api.Found{check(8, 9, 0, 1), check(3, 9, 0, 1)}, []int{3}},
		{"behind it those of an older one", []api.Found{check(3, 9, 0, 2), check(4, 9, 1, 2), check(5, 8, 0, 2), check(6, 8, 1, 2)}, []int{3, 4}},
		{"of one Seq, but not of one Of", []api.Found{check(3, 10, 0, 2), check(4, 10, 1, 3), check(5, 9, 0, 1)}, []int{5}},
		{"of one Seq, and one Of of two is whole", []api.Found{check(3, 10, 0, 2), check(4, 10, 1, 3), check(5, 10, 1, 2)}, []int{3, 5}},
		{"of one Of, but not of one Seq", []api.Found{check(3, 10, 0, 2), check(4, 11, 1, 2), check(5, 9, 0, 1)}, []int{5}},
		{"a journal's page is none", []api.Found{check(3, 9, 0, 1), kinded(check(4, 10, 0, 1), api.PageJournal)}, []int{3}},
		{"a page of data is none", []api.Found{check(3, 9, 0, 1), kinded(check(4, 10, 0, 1), api.PageData)}, []int{3}},
		{"a journal's page does not make one whole", []api.Found{check(3, 9, 0, 1), check(4, 10, 0, 2), kinded(check(5, 10, 1, 2), api.PageJournal)}, []int{3}},
		{"a torn page is none", []api.Found{check(3, 9, 0, 1), classed(check(4, 10, 0, 1), api.ClassTorn)}, []int{3}},
		{"an erased page is none", []api.Found{check(3, 9, 0, 1), classed(check(4, 10, 0, 1), api.ClassErased)}, []int{3}},
		{"a torn page does not make one whole", []api.Found{check(3, 9, 0, 1), check(4, 10, 0, 2), classed(check(5, 10, 1, 2), api.ClassTorn)}, []int{3}},
		{"a torn page of that Index behind it is passed over", []api.Found{check(3, 9, 0, 1), classed(check(4, 9, 0, 1), api.ClassTorn)}, []int{3}},
		{"a journal's page of that Index behind it is passed over", []api.Found{check(3, 9, 0, 1), kinded(check(4, 9, 0, 1), api.PageJournal)}, []int{3}},
	} {
		t.Run(c.name, func(t *testing.T) {
			got, is := Newest(c.l)
			if !is || !slices.Equal(places(got), c.want) {
				t.Fatal(got, is, "want", c.want)
			}
			for i, f := range got {
				if !slices.Contains(c.l, f) || f.Tag.Index != i || f.Tag.Of != len(got) {
					t.Error(i, f)
				}
			}
		})
	}
}

func TestNoNewest(t *testing.T) {
	for _, c := range []struct {
		name string
		l    []api.Found
	}{
		{"nil", nil},
		{"no pages", []api.Found{}},
		{"a page that is nothing", []api.Found{{}}},
		{"erased ones", make([]api.Found, 100)},
		{"a page lacks", []api.Found{check(3, 9, 0, 2)}},
		{"pages twice", []api.Found{check(3, 9, 0, 2), check(4, 9, 0, 2)}},
		{"torn", []api.Found{classed(check(3, 9, 0, 1), api.ClassTorn)}},
		{"erased", []api.Found{classed(check(3, 9, 0, 1), api.ClassErased)}},
		{"a class that is none", []api.Found{classed(check(3, 9, 0, 1), 3), classed(check(3, 9, 0, 1), -1)}},
		{"a journal's", []api.Found{kinded(check(3, 9, 0, 1), api.PageJournal)}},
		{"data", []api.Found{kinded(check(3, 9, 0, 1), api.PageData)}},
		{"kinds that are none", []api.Found{kinded(check(3, 9, 0, 1), 0), kinded(check(3, 9, 0, 1), 4), kinded(check(3, 9, 0, 1), 259)}},
		{"Of 0", []api.Found{check(3, 9, 0, 0), check(4, 9, -1, 0)}},
		{"Of below 0", []api.Found{check(3, 9, 0, -1), check(4, 9, -2, -1), check(5, 9, math.MinInt, math.MinInt)}},
		{"Index below 0", []api.Found{check(3, 9, -1, 1), check(4, 9, math.MinInt, 1)}},
		{"Index not below Of", []api.Found{check(3, 9, 1, 1), check(4, 9, math.MaxInt, 1), check(5, 9, 0, 2), check(6, 9, 2, 2)}},
		{"more pages than there can be", []api.Found{check(3, 9, 0, math.MaxInt), check(4, 9, math.MaxInt-1, math.MaxInt)}},
	} {
		t.Run(c.name, func(t *testing.T) {
			if got, is := Newest(c.l); is || len(got) != 0 {
				t.Error(got, is)
			}
		})
	}
}

func TestNewestOfManyPages(t *testing.T) {
	const of = 65535
	l := make([]api.Found, 0, 2*of)
	for i := range of {
		l = append(l, check(i, 9, of-1-i, of), check(of+i, 8, i, of))
	}
	got, is := Newest(l)
	if !is || len(got) != of || got[0].At != of-1 || got[of-1].At != 0 {
		t.Fatal(len(got), is)
	}
	got, is = Newest(l[1:])
	if !is || len(got) != of || got[0].At != of {
		t.Error(len(got), is)
	}
	if _, is := Newest(l[2:]); is {
		t.Error("whole")
	}
}

// All short lists of pages that differ in what counts.
func TestNewestOfAllShortLists(t *testing.T) {
	kinds := []api.Found{
		check(0, 1, 0, 1), check(0, 2, 0, 2), check(0, 2, 1, 2), check(0, 3, 0, 2), check(0, 3, 1, 2),
		check(0, 2, 0, 1), check(0, 3, 2, 3), check(0, 3, 1, 3), check(0, 3, 0, 3),
		classed(check(0, 3, 0, 2), api.ClassTorn), kinded(check(0, 3, 1, 2), api.PageJournal), check(0, 4, 1, 1),
	}
	var all func(l []api.Found, left int)
	all = func(l []api.Found, left int) {
		wantNewest(t, l)
		if left == 0 {
			return
		}
		for _, f := range kinds {
			f.At = len(l)
			all(append(l[:len(l):len(l)], f), left-1)
		}
	}
	all(nil, 4)
}

func wantNewest(t *testing.T, l []api.Found) {
	t.Helper()
	before := slices.Clone(l)
	got, is := Newest(l)
	want, wantIs := plainNewest(l)
	if is != wantIs || !slices.Equal(got, want) {
		t.Fatal(l, got, is, "want", want, wantIs)
	}
	if !slices.Equal(l, before) {
		t.Fatal("the list was changed", l, before)
	}
}

func TestNewestOfRandomLists(t *testing.T) {
	r := rand.New(rand.NewSource(41))
	for range 20000 {
		l := make([]api.Found, r.Intn(40))
		most := 1 + r.Intn(5)
		for i := range l {
			l[i] = check(r.Intn(500), uint64(r.Intn(4)), r.Intn(most+1)-r.Intn(2), 1+r.Intn(most))
			if r.Intn(10) == 0 {
				l[i].Class = r.Intn(3)
			}
			if r.Intn(10) == 0 {
				l[i].Tag.Kind = r.Intn(4)
			}
		}
		wantNewest(t, l)
	}
}

func TestNewestIsTheCallersOwn(t *testing.T) {
	l := []api.Found{check(3, 9, 0, 2), check(4, 9, 1, 2)}
	got, _ := Newest(l)
	got[0], got[1] = api.Found{}, api.Found{}
	if l[0] != check(3, 9, 0, 2) || l[1] != check(4, 9, 1, 2) {
		t.Error("the list was changed by the answer")
	}
	got, _ = Newest(l)
	l[0], l[1] = api.Found{}, api.Found{}
	if got[0] != check(3, 9, 0, 2) || got[1] != check(4, 9, 1, 2) {
		t.Error("the answer was changed by the list")
	}
}

func TestTexts(t *testing.T) {
	for _, c := range []struct {
		name string
		l    []api.Found
		want []string
	}{
		{"nil", nil, nil},
		{"no pages", []api.Found{}, nil},
		{"one", []api.Found{check(3, 9, 0, 1)}, []string{"at 3"}},
		{"as they stand in the list", []api.Found{check(5, 9, 1, 2), check(3, 9, 0, 2), check(5, 9, 1, 2)}, []string{"at 5", "at 3", "at 5"}},
		{"whatever they are", []api.Found{{}, classed(check(3, 9, 0, 1), api.ClassTorn), kinded(check(4, 9, 0, 1), 0)}, []string{"", "at 3", "at 4"}},
		{"bytes that are no letters", []api.Found{{Text: "\x00\xff"}, {Text: "\xe2\x82"}}, []string{"\x00\xff", "\xe2\x82"}},
	} {
		t.Run(c.name, func(t *testing.T) {
			if got := Texts(c.l); !slices.Equal(got, c.want) {
				t.Error(got, c.want)
			}
		})
	}
}

func TestTextsIsTheCallersOwn(t *testing.T) {
	l := []api.Found{check(3, 9, 0, 1)}
	got := Texts(l)
	got[0] = "other"
	if l[0] != check(3, 9, 0, 1) || Texts(l)[0] != "at 3" {
		t.Error("the list was changed by the answer")
	}
}

// What is written is found, behind cuts and failures too: the newest checkpoint of those that were told as written, or the one that was under way.
func TestThereAndBack(t *testing.T) {
	r := rand.New(rand.NewSource(1414))
	for range 1000 {
		f := api.Faults{Cuts: []api.Cut{{At: 1 + r.Intn(25), Keep: r.Intn(130) - 5, Fill: byte(r.Intn(256))}}}
		if r.Intn(2) == 0 {
			f.Fails = []int{1 + r.Intn(20)}
		}
		w := fresh(t, f)
		var said, underWay []api.Record
		seq, some := uint64(1), false
		for {
			kind := api.PageCheck - r.Intn(2)
			l := rows(r.Intn(30))
			_, next, e := Write(w.Writer, l, kind, seq, 64)
			if next <= seq {
				t.Fatal(next, seq)
			}
			seq = next
			if e != api.OK {
				underWay = said
				if kind == api.PageCheck {
					underWay = l
				}
				break
			}
			if kind == api.PageCheck {
				said, some = l, true
			}
		}
		w.chip.Power()
		found := w.valid()
		r.Shuffle(len(found), func(i, j int) { found[i], found[j] = found[j], found[i] })
		newest, is := Newest(found)
		if !is {
			if some {
				t.Fatal("a checkpoint that was told as written is lost")
			}
			continue
		}
		back, e := group.Unpack(Texts(newest)...)
		if e != api.OK || !(some && slices.Equal(back, said)) && !slices.Equal(back, underWay) {
			t.Fatal(e, len(back), len(said), len(underWay))
		}
	}
}
