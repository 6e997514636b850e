package scan

import (
	"math"
	"math/rand"
	"slices"
	"strings"
	"testing"

	"tinderbox/api"
	"tinderbox/ckpt"
	"tinderbox/group"
	"tinderbox/life"
	"tinderbox/nand"
	"tinderbox/page"
	"tinderbox/state"
	"tinderbox/write"
)

var small = api.Geometry{Blocks: 8, Pages: 4, Size: 64}

func chipOf(t *testing.T, g api.Geometry, f api.Faults) *nand.Chip {
	t.Helper()
	c, e := nand.New(g, f)
	if e != api.OK {
		t.Fatal(e)
	}
	return c
}

func writerOf(t *testing.T, c *nand.Chip) *write.Writer {
	t.Helper()
	g := c.Geometry()
	l, e := life.New(g.Blocks, g.Pages)
	if e != api.OK {
		t.Fatal(e)
	}
	w, e := write.New(c, l, make([]int, g.Blocks))
	if e != api.OK {
		t.Fatal(e)
	}
	return w
}

func allOf(t *testing.T, c *nand.Chip) []api.Found {
	t.Helper()
	l, e := All(c)
	if e != api.OK {
		t.Fatal(e)
	}
	return l
}

// erased is so many erased pages, as they are found.
func erased(n int) []api.Found {
	l := make([]api.Found, n)
	for at := range l {
		l[at].At = at
	}
	return l
}

func TestAllOfAnErasedChip(t *testing.T) {
	for _, g := range []api.Geometry{
		small,
		{Blocks: 32, Pages: 16, Size: 256},
		{Blocks: 8, Pages: 16, Size: 64},
		{Blocks: 31, Pages: 5, Size: 77},
	} {
		l, e := All(chipOf(t, g, api.Faults{}))
		if e != api.OK || !slices.Equal(l, erased(g.Blocks*g.Pages)) {
			t.Error(g, len(l), e)
		}
		if m, e := Rebuild(l); e != api.ErrBlank || m != nil {
			t.Error(g, m, e)
		}
	}
}

// put programs a page as it is framed.
func put(t *testing.T, c *nand.Chip, b, p int, tag api.Tag, s string) {
	t.Helper()
	data, spare, e := page.Frame(tag, s, c.Geometry().Size)
	if e != api.OK {
		t.Fatal(e)
	}
	if e := c.Program(b, p, data, spare); e != api.OK {
		t.Fatal(e)
	}
}

func TestAllBlockByBlock(t *testing.T) {
	g := api.Geometry{Blocks: 9, Pages: 5, Size: 70}
	c := chipOf(t, g, api.Faults{})
	data := api.Tag{Kind: api.PageData, Seq: 7, Of: 1, Worn: 3}
	journal := api.Tag{Kind: api.PageJournal, Seq: math.MaxUint64, Index: 65534, Of: 65535, Worn: math.MaxUint32}
	check := api.Tag{Kind: api.PageCheck, Seq: 0, Index: 1, Of: 4}
	long := strings.Repeat("\xff", 70)
	put(t, c, 0, 0, data, "one")
	put(t, c, 0, 2, journal, "\x00\xff\x00")
	put(t, c, 3, 4, check, "")
	put(t, c, 8, 0, data, long)
	put(t, c, 8, 4, data, "the last")
	if e := c.Program(8, 4, strings.Repeat("\x00", 70), strings.Repeat("\x00", 32)); e != api.ErrUse {
		t.Fatal(e)
	}
	if e := c.Program(5, 1, strings.Repeat("x", 70), strings.Repeat("y", 32)); e != api.OK {
		t.Fatal(e)
	}
	want := erased(45)
	want[0] = api.Found{At: 0, Class: api.ClassValid, Tag: data, Text: "one"}
	want[2] = api.Found{At: 2, Class: api.ClassValid, Tag: journal, Text: "\x00\xff\x00"}
	want[19] = api.Found{At: 19, Class: api.ClassValid, Tag: check}
	want[26].Class = api.ClassTorn
	want[40] = api.Found{At: 40, Class: api.ClassValid, Tag: data, Text: long}
	want[44] = api.Found{At: 44, Class: api.ClassValid, Tag: data, Text: "the last"}
	for range 2 {
		did := c.Did()
		for i, f := range allOf(t, c) {
			if f != want[i] {
				t.Error(f, want[i])
			}
		}
		if c.Did() != did {
			t.Error("something was done to the chip")
		}
	}
	c.Erase(8)
	for at := 40; at < 45; at++ {
		want[at] = api.Found{At: at}
	}
	if !slices.Equal(allOf(t, c), want) {
		t.Error("what was erased is still told")
	}
}

func TestAllOfBadBlocks(t *testing.T) {
	c := chipOf(t, small, api.Faults{Bad: []int{0, 7}, Fails: []int{2}})
	tag := api.Tag{Kind: api.PageData, Seq: 7, Of: 1}
	put(t, c, 2, 0, tag, "one")
	data, spare, _ := page.Frame(tag, "two", 64)
	if e := c.Program(2, 1, data, spare); e != api.ErrProgram {
		t.Fatal(e)
	}
	c.Mark(2)
	want := erased(32)
	want[8] = api.Found{At: 8, Class: api.ClassValid, Tag: tag, Text: "one"}
	want[9].Class = api.ClassTorn
	if got := allOf(t, c); !slices.Equal(got, want) {
		t.Error(got)
	}
}

func TestAllOfAPageInWhichThePowerFailed(t *testing.T) {
	tag := api.Tag{Kind: api.PageData, Seq: 7, Of: 1}
	for _, c := range []struct {
		keep int
		fill byte
		want api.Found
	}{
		{0, 255, api.Found{Class: api.ClassErased}},
		{-1, 255, api.Found{Class: api.ClassErased}},
		{0, 0, api.Found{Class: api.ClassTorn}},
		{1, 255, api.Found{Class: api.ClassTorn}},
		{64, 255, api.Found{Class: api.ClassTorn}},
		{95, 9, api.Found{Class: api.ClassTorn}},
		{96, 9, api.Found{Class: api.ClassValid, Tag: tag, Text: "one"}},
	} {
		chip := chipOf(t, small, api.Faults{Cuts: []api.Cut{{At: 1, Keep: c.keep, Fill: c.fill}}})
		data, spare, _ := page.Frame(tag, "one", 64)
		if e := chip.Program(0, 0, data, spare); e != api.OK && e != api.ErrOff {
			t.Fatal(e)
		}
		if l, e := All(chip); e != api.ErrOff || len(l) != 0 {
			t.Error(len(l), e)
		}
		chip.Power()
		want := erased(32)
		want[0] = c.want
		if got := allOf(t, chip); !slices.Equal(got, want) {
			t.Error(c, got[0])
		}
	}
}

func TestAllRefused(t *testing.T) {
	if l, e := All(nil); e != api.ErrInput || len(l) != 0 {
		t.Error(l, e)
	}
	c := chipOf(t, small, api.Faults{Cuts: []api.Cut{{At: 2}}})
	put(t, c, 0, 0, api.Tag{Kind: api.PageData, Of: 1}, "one")
	c.Erase(3)
	for range 2 {
		if l, e := All(c); e != api.ErrOff || len(l) != 0 {
			t.Error(l, e)
		}
	}
	c.Power()
	if l, e := All(c); e != api.OK || len(l) != 32 || l[0].Text != "one" {
		t.Error(l, e)
	}
	if l, e := All(&nand.Chip{}); e != api.OK || len(l) != 0 {
		t.Error(l, e)
	}
}

func TestAllIsTheCallersOwn(t *testing.T) {
	c := chipOf(t, small, api.Faults{})
	put(t, c, 0, 0, api.Tag{Kind: api.PageData, Of: 1}, "one")
	l := allOf(t, c)
	kept := slices.Clone(l)
	c.Erase(0)
	if !slices.Equal(l, kept) {
		t.Error("the chip changed what was told")
	}
	clear(l)
	if !slices.Equal(allOf(t, c), erased(32)) {
		t.Error("what was told changed the chip")
	}
}

func makes(space, quota int) api.Record {
	return api.Record{Kind: api.RecMake, Space: space, N: quota}
}

func puts(space, page, at int) api.Record {
	return api.Record{Kind: api.RecPut, Space: space, Page: page, At: at}
}

func drops(space int) api.Record { return api.Record{Kind: api.RecDrop, Space: space} }

func moves(at, to int) api.Record { return api.Record{Kind: api.RecMove, At: at, To: to} }

// found is a valid page of a kind that says records.
func found(kind, at int, seq uint64, index, of int, l ...api.Record) api.Found {
	return api.Found{At: at, Class: api.ClassValid, Tag: api.Tag{Kind: kind, Seq: seq, Index: index, Of: of}, Text: group.Pack(l, 10000)[0]}
}

func check(at int, seq uint64, index, of int, l ...api.Record) api.Found {
	return found(api.PageCheck, at, seq, index, of, l...)
}

func note(at int, seq uint64, index, of int, l ...api.Record) api.Found {
	return found(api.PageJournal, at, seq, index, of, l...)
}

func data(at int, seq uint64) api.Found {
	f := found(api.PageData, at, seq, 0, 1)
	f.Text = "what a page says"
	return f
}

func classed(f api.Found, class int) api.Found {
	f.Class = class
	return f
}

func said(f api.Found, s string) api.Found {
	f.Text = s
	return f
}

// wantImage asks for all that an image tells.
func wantImage(t *testing.T, m *Image, e api.Errno, dump []api.Record, next, check uint64, meta []int) {
	t.Helper()
	if e != api.OK || m == nil {
		t.Fatal(m, e)
	}
	if m.State() == nil || !slices.Equal(m.State().Dump(), dump) {
		t.Error("state", m.State().Dump(), "want", dump)
	}
	if m.Next() != next {
		t.Error("next", m.Next(), "want", next)
	}
	if m.Check() != check {
		t.Error("check", m.Check(), "want", check)
	}
	if !slices.Equal(m.Meta(), meta) {
		t.Error("meta", m.Meta(), "want", meta)
	}
}

func TestRebuildOfCheckpoints(t *testing.T) {
	one, two := makes(1, 5), makes(2, 6)
	for _, c := range []struct {
		name  string
		l     []api.Found
		dump  []api.Record
		next  uint64
		check uint64
		meta  []int
	}{
		{"one without records", []api.Found{check(3, 9, 0, 1)}, nil, 10, 9, []int{3}},
		{"one of Seq 0", []api.Found{check(3, 0, 0, 1, one)}, []api.Record{one}, 1, 0, []int{3}},
		{"one with records", []api.Found{check(3, 9, 0, 1, one, puts(1, 2, 30))}, []api.Record{one, puts(1, 2, 30)}, 10, 9, []int{3}},
		{"by Index, not by place", []api.Found{check(3, 9, 1, 2, puts(1, 2, 30)), check(4, 9, 0, 2, one)}, []api.Record{one, puts(1, 2, 30)}, 10, 9, []int{4, 3}},
		{"the newer one behind", []api.Found{check(3, 9, 0, 1, one), check(4, 10, 0, 1, two)}, []api.Record{two}, 11, 10, []int{4}},
		{"the newer one ahead", []api.Found{check(3, 10, 0, 1, one), check(4, 9, 0, 1, two)}, []api.Record{one}, 11, 10, []int{3}},
		{"the older one is forgotten", []api.Found{check(3, 9, 0, 1, one), check(4, 10, 0, 1)}, nil, 11, 10, []int{4}},
		{"the newer one is not whole", []api.Found{check(3, 9, 0, 1, one), check(4, 10, 0, 2, two)}, []api.Record{one}, 11, 9, []int{3}},
		{"the newer one is torn", []api.Found{check(3, 9, 0, 1, one), classed(check(4, 10, 0, 1, two), api.ClassTorn)}, []api.Record{one}, 10, 9, []int{3}},
		{"of several of one Index the last one", []api.Found{check(3, 9, 0, 1, one), check(4, 9, 0, 1, two)}, []api.Record{two}, 10, 9, []int{4}},
		{"beside pages of data", []api.Found{data(1, 30), check(3, 9, 0, 1, one), data(4, 20)}, []api.Record{one}, 31, 9, []int{3}},
		{"beside data with a greater Seq that is torn", []api.Found{classed(data(1, 30), api.ClassTorn), check(3, 9, 0, 1, one), classed(data(2, 40), api.ClassErased)}, []api.Record{one}, 10, 9, []int{3}},
		{"the last Seq that has a next one", []api.Found{check(3, math.MaxUint64-1, 0, 1, one)}, []api.Record{one}, math.MaxUint64, math.MaxUint64 - 1, []int{3}},
		{"Seq without a sign", []api.Found{check(3, 1<<63, 0, 1, one), check(4, 1<<63-1, 0, 1, two)}, []api.Record{one}, 1<<63 + 1, 1 << 63, []int{3}},
		{"blocks that are bad and worn", []api.Found{check(3, 9, 0, 1, api.Record{Kind: api.RecBad, At: 4}, api.Record{Kind: api.RecWorn, At: 5, N: 7})}, []api.Record{{Kind: api.RecBad, At: 4}, {Kind: api.RecWorn, At: 5, N: 7}}, 10, 9, []int{3}},
	} {
		t.Run(c.name, func(t *testing.T) {
			m, e := Rebuild(c.l)
			wantImage(t, m, e, c.dump, c.next, c.check, c.meta)
		})
	}
}

// Behind a checkpoint of Seq 10 at place 0 that makes space 1.
func TestRebuildOfTheJournal(t *testing.T) {
	for _, c := range []struct {
		name string
		l    []api.Found
		puts []api.Record // beside the space
		next uint64
		meta []int // beside the checkpoint's
	}{
		{"a group of one page", []api.Found{note(3, 11, 0, 1, puts(1, 0, 40))}, []api.Record{puts(1, 0, 40)}, 12, []int{3}},
		{"a group of three", []api.Found{note(3, 11, 0, 3, puts(1, 0, 40)), note(4, 12, 1, 3, puts(1, 1, 41)), note(5, 13, 2, 3, puts(1, 2, 42))}, []api.Record{puts(1, 0, 40), puts(1, 1, 41), puts(1, 2, 42)}, 14, []int{3, 4, 5}},
		{"a group without records", []api.Found{note(3, 11, 0, 1)}, nil, 12, []int{3}},
		{"not right behind the checkpoint", []api.Found{note(3, 500, 0, 1, puts(1, 0, 40))}, []api.Record{puts(1, 0, 40)}, 501, []int{3}},
		{"by Seq, not by place", []api.Found{note(3, 13, 0, 1, puts(1, 0, 40)), note(4, 11, 0, 1, puts(1, 0, 41)), note(5, 12, 0, 1, puts(1, 0, 42))}, []api.Record{puts(1, 0, 40)}, 14, []int{4, 5, 3}},
		{"a group whose pages stand the other way round", []api.Found{note(3, 13, 2, 3, moves(42, 43)), note(4, 12, 1, 3, moves(41, 42)), note(5, 11, 0, 3, puts(1, 0, 41))}, []api.Record{puts(1, 0, 43)}, 14, []int{5, 4, 3}},
		{"Seq without a sign", []api.Found{note(3, 1<<63, 0, 1, puts(1, 0, 40)), note(4, 1<<63-1, 0, 1, puts(1, 0, 41))}, []api.Record{puts(1, 0, 40)}, 1<<63 + 1, []int{4, 3}},
		{"Seq across 32 bits", []api.Found{note(3, 1<<32, 1, 2, puts(1, 0, 40)), note(4, 1<<32-1, 0, 2, puts(1, 0, 41))}, []api.Record{puts(1, 0, 40)}, 1<<32 + 1, []int{4, 3}},
		{"of the checkpoint's Seq", []api.Found{note(3, 10, 0, 1, puts(1, 0, 40))}, nil, 11, nil},
		{"of a Seq below the checkpoint's", []api.Found{note(3, 9, 0, 1, puts(1, 0, 40)), note(4, 0, 0, 1, puts(1, 0, 40))}, nil, 11, nil},
		{"of which only the end is above the checkpoint's", []api.Found{note(3, 10, 0, 2, puts(1, 0, 40)), note(4, 11, 1, 2, puts(1, 0, 41))}, nil, 12, nil},
		{"the end lacks", []api.Found{note(3, 11, 0, 2, puts(1, 0, 40))}, nil, 12, nil},
		{"the last one of three lacks", []api.Found{note(3, 11, 0, 3, puts(1, 0, 40)), note(4, 12, 1, 3, puts(1, 0, 40))}, nil, 13, nil},
		{"the beginning lacks", []api.Found{note(4, 12, 1, 2, puts(1, 0, 40))}, nil, 13, nil},
		{"the midst lacks", []api.Found{note(3, 11, 0, 3, puts(1, 0, 40)), note(5, 13, 2, 3, puts(1, 0, 40))}, nil, 14, nil},
		{"the midst lacks, and Seq rises by one", []api.Found{note(3, 11, 0, 3, puts(1, 0, 40)), note(5, 12, 2, 3, puts(1, 0, 40)), note(6, 13, 1, 3, puts(1, 0, 40))}, nil, 14, nil},
		{"Seq rises by two", []api.Found{note(3, 11, 0, 2, puts(1, 0, 40)), note(4, 13, 1, 2, puts(1, 0, 40))}, nil, 14, nil},
		{"Seq does not rise", []api.Found{note(3, 11, 0, 2, puts(1, 0, 40)), note(4, 11, 1, 2, puts(1, 0, 40))}, nil, 12, nil},
		{"another Of", []api.Found{note(3, 11, 0, 2, puts(1, 0, 40)), note(4, 12, 1, 3, puts(1, 0, 40))}, nil, 13, nil},
		{"another Of in the last one", []api.Found{note(3, 11, 0, 3, puts(1, 0, 40)), note(4, 12, 1, 3, puts(1, 0, 40)), note(5, 13, 2, 4, puts(1, 0, 40))}, nil, 14, nil},
		{"Index does not begin with 0", []api.Found{note(3, 11, 1, 2, puts(1, 0, 40)), note(4, 12, 2, 2, puts(1, 0, 40))}, nil, 13, nil},
		{"a group behind one whose end lacks", []api.Found{note(3, 11, 0, 2, puts(1, 0, 40)), note(4, 12, 0, 1, puts(1, 1, 41))}, []api.Record{puts(1, 1, 41)}, 13, []int{4}},
		{"a group of two behind one whose end lacks", []api.Found{note(3, 11, 0, 2, puts(1, 0, 40)), note(4, 12, 0, 2, puts(1, 1, 41)), note(5, 13, 1, 2, puts(1, 2, 42))}, []api.Record{puts(1, 1, 41), puts(1, 2, 42)}, 14, []int{4, 5}},
		{"a group behind one whose beginning lacks", []api.Found{note(3, 12, 1, 2, puts(1, 0, 40)), note(4, 13, 0, 1, puts(1, 1, 41))}, []api.Record{puts(1, 1, 41)}, 14, []int{4}},
		{"a group behind one whose last page lacks", []api.Found{note(3, 11, 0, 3, puts(1, 0, 40)), note(4, 12, 1, 3, puts(1, 0, 40)), note(5, 13, 0, 1, puts(1, 1, 41))}, []api.Record{puts(1, 1, 41)}, 14, []int{5}},
		{"a group ahead of one whose end lacks", []api.Found{note(3, 11, 0, 1, puts(1, 1, 41)), note(4, 12, 0, 2, puts(1, 0, 40))}, []api.Record{puts(1, 1, 41)}, 13, []int{3}},
		{"groups on both sides of a page that lacks", []api.Found{note(3, 11, 0, 1, puts(1, 1, 41)), note(4, 12, 1, 2, puts(1, 0, 40)), note(5, 13, 0, 1, puts(1, 2, 42))}, []api.Record{puts(1, 1, 41), puts(1, 2, 42)}, 14, []int{3, 5}},
		{"Seq of two groups far apart", []api.Found{note(3, 11, 0, 1, puts(1, 1, 41)), note(4, 100, 0, 1, puts(1, 2, 42))}, []api.Record{puts(1, 1, 41), puts(1, 2, 42)}, 101, []int{3, 4}},
		{"one group in the midst of another one", []api.Found{note(3, 11, 0, 2, puts(1, 0, 40)), note(4, 12, 0, 1, puts(1, 1, 41)), note(5, 13, 1, 2, puts(1, 0, 40))}, []api.Record{puts(1, 1, 41)}, 14, []int{4}},
		{"several of one Seq as they were found", []api.Found{note(5, 11, 0, 1, puts(1, 0, 40)), note(4, 11, 0, 1, puts(1, 0, 41)), note(3, 11, 0, 1, puts(1, 0, 42))}, []api.Record{puts(1, 0, 42)}, 12, []int{5, 4, 3}},
		{"two that begin one, and only the second goes on", []api.Found{note(3, 11, 0, 2, puts(1, 0, 40)), note(4, 11, 0, 2, puts(1, 1, 41)), note(5, 12, 1, 2, puts(1, 2, 42))}, []api.Record{puts(1, 1, 41), puts(1, 2, 42)}, 13, []int{4, 5}},
		{"two that end one, and only the first does", []api.Found{note(3, 11, 0, 2, puts(1, 0, 40)), note(4, 12, 1, 2, puts(1, 1, 41)), note(5, 12, 1, 2, puts(1, 2, 42))}, []api.Record{puts(1, 0, 40), puts(1, 1, 41)}, 13, []int{3, 4}},
		{"a torn page", []api.Found{classed(note(3, 11, 0, 1, puts(1, 0, 40)), api.ClassTorn)}, nil, 11, nil},
		{"an erased page", []api.Found{classed(note(3, 11, 0, 1, puts(1, 0, 40)), api.ClassErased)}, nil, 11, nil},
		{"a class that is none", []api.Found{classed(note(3, 11, 0, 1, puts(1, 0, 40)), 3), classed(note(3, 11, 0, 1, puts(1, 0, 40)), -1)}, nil, 11, nil},
		{"a torn page does not make one whole", []api.Found{note(3, 11, 0, 2, puts(1, 0, 40)), classed(note(4, 12, 1, 2, puts(1, 0, 40)), api.ClassTorn)}, nil, 12, nil},
		{"a torn page in the midst is as if it were not there", []api.Found{note(3, 11, 0, 2, puts(1, 0, 40)), classed(note(4, 11, 0, 1, puts(1, 1, 41)), api.ClassTorn), note(5, 12, 1, 2, puts(1, 2, 42))}, []api.Record{puts(1, 0, 40), puts(1, 2, 42)}, 13, []int{3, 5}},
		{"a page of data is none", []api.Found{found(api.PageData, 3, 11, 0, 1, puts(1, 0, 40))}, nil, 12, nil},
		{"a page of data does not make one whole", []api.Found{note(3, 11, 0, 2, puts(1, 0, 40)), found(api.PageData, 4, 12, 1, 2, puts(1, 0, 40))}, nil, 13, nil},
		{"a page of data of a Seq in the midst of a group is none of it", []api.Found{note(3, 11, 0, 2, puts(1, 0, 40)), data(4, 12), note(5, 12, 1, 2, puts(1, 2, 42))}, []api.Record{puts(1, 0, 40), puts(1, 2, 42)}, 13, []int{3, 5}},
		{"data between two groups", []api.Found{note(3, 11, 0, 1, puts(1, 1, 41)), data(4, 12), data(6, 13), note(5, 14, 0, 1, puts(1, 2, 42))}, []api.Record{puts(1, 1, 41), puts(1, 2, 42)}, 15, []int{3, 5}},
		{"a checkpoint that is not whole is passed over", []api.Found{note(3, 11, 0, 1, puts(1, 1, 41)), check(4, 12, 0, 2, drops(1)), note(5, 13, 0, 1, puts(1, 2, 42))}, []api.Record{puts(1, 1, 41), puts(1, 2, 42)}, 14, []int{3, 5}},
		{"a checkpoint's page does not make one whole", []api.Found{note(3, 11, 0, 2, puts(1, 0, 40)), check(4, 12, 1, 2, puts(1, 0, 40))}, nil, 13, nil},
		{"Of 0 or below", []api.Found{note(3, 11, 0, 0, puts(1, 0, 40)), note(4, 12, -1, 0, puts(1, 0, 40)), note(5, 13, 0, -1, puts(1, 0, 40)), note(6, 14, 0, math.MinInt, puts(1, 0, 40)), note(7, 15, 0, 1, puts(1, 1, 41))}, []api.Record{puts(1, 1, 41)}, 16, []int{7}},
		{"more pages than there can be", []api.Found{note(3, 11, 0, math.MaxInt, puts(1, 0, 40)), note(4, 12, 1, math.MaxInt, puts(1, 0, 40)), note(5, 13, 0, 1, puts(1, 1, 41))}, []api.Record{puts(1, 1, 41)}, 14, []int{5}},
		{"Index below 0, or not below Of", []api.Found{note(3, 11, -1, 1, puts(1, 0, 40)), note(4, 12, 1, 1, puts(1, 0, 40)), note(5, 13, math.MinInt, 1, puts(1, 0, 40))}, nil, 14, nil},
		{"the greatest Seq belongs to data", []api.Found{note(3, 11, 0, 1, puts(1, 1, 41)), data(4, 77)}, []api.Record{puts(1, 1, 41)}, 78, []int{3}},
		{"no Seq is behind the greatest one but 0", []api.Found{note(3, math.MaxUint64, 0, 1, puts(1, 1, 41)), note(4, 0, 0, 1, puts(1, 0, 40))}, []api.Record{puts(1, 1, 41)}, 0, []int{3}},
		{"a group does not go on behind the greatest Seq", []api.Found{note(3, math.MaxUint64, 0, 2, puts(1, 1, 41)), note(4, 0, 1, 2, puts(1, 0, 40))}, nil, 0, nil},
	} {
		t.Run(c.name, func(t *testing.T) {
			base := check(0, 10, 0, 1, makes(1, 5))
			dump := append([]api.Record{makes(1, 5)}, c.puts...)
			meta := append([]int{0}, c.meta...)
			m, e := Rebuild(append([]api.Found{base}, c.l...))
			wantImage(t, m, e, dump, c.next, 10, meta)
			m, e = Rebuild(append(slices.Clone(c.l), base))
			wantImage(t, m, e, dump, c.next, 10, meta)
		})
	}
}

// A newer checkpoint has in it what the journal ahead of it told; done once more it would be refused.
func TestRebuildBehindTheNewestCheckpoint(t *testing.T) {
	l := []api.Found{
		check(0, 10, 0, 1),
		note(1, 11, 0, 1, makes(1, 5)),
		note(2, 12, 0, 1, puts(1, 0, 40)),
		check(3, 13, 0, 1, makes(1, 5), puts(1, 0, 40)),
		note(4, 14, 0, 1, moves(40, 41)),
	}
	m, e := Rebuild(l)
	wantImage(t, m, e, []api.Record{makes(1, 5), puts(1, 0, 41)}, 15, 13, []int{3, 4})
	m, e = Rebuild(l[:4])
	wantImage(t, m, e, []api.Record{makes(1, 5), puts(1, 0, 40)}, 14, 13, []int{3})
	m, e = Rebuild(l[:3])
	wantImage(t, m, e, []api.Record{makes(1, 5), puts(1, 0, 40)}, 13, 10, []int{0, 1, 2})
	l[3].Class = api.ClassTorn
	m, e = Rebuild(l)
	wantImage(t, m, e, []api.Record{makes(1, 5), puts(1, 0, 41)}, 15, 10, []int{0, 1, 2, 4})
}

func wantRefused(t *testing.T, l []api.Found, want api.Errno) {
	t.Helper()
	if m, e := Rebuild(l); e != want || m != nil {
		t.Error(m, e, "want", want)
	}
}

func TestRebuildBlank(t *testing.T) {
	for _, c := range []struct {
		name string
		l    []api.Found
	}{
		{"nil", nil},
		{"no pages", []api.Found{}},
		{"erased ones", erased(100)},
		{"a journal alone", []api.Found{note(3, 11, 0, 1, makes(1, 5))}},
		{"data alone", []api.Found{data(3, 11)}},
		{"a page lacks", []api.Found{check(3, 9, 0, 2)}},
		{"a page lacks, and another one is there twice", []api.Found{check(3, 9, 0, 2), check(4, 9, 0, 2)}},
		{"torn", []api.Found{classed(check(3, 9, 0, 1), api.ClassTorn)}},
		{"erased", []api.Found{classed(check(3, 9, 0, 1), api.ClassErased)}},
		{"of two Seqs", []api.Found{check(3, 9, 0, 2), check(4, 10, 1, 2)}},
		{"Of 0", []api.Found{check(3, 9, 0, 0)}},
		{"records that may not be beside it", []api.Found{said(note(3, 11, 0, 1), "\x05"), said(check(4, 9, 0, 2), "\x05"), note(5, 12, 0, 1, drops(4))}},
	} {
		t.Run(c.name, func(t *testing.T) { wantRefused(t, c.l, api.ErrBlank) })
	}
}

// refusedTexts are texts of records that may not be, where there is space 1 of five pages, and each one's error.
func refusedTexts() []struct {
	name string
	text string
	want api.Errno
} {
	of := func(l ...api.Record) string { return group.Pack(l, 10000)[0] }
	return []struct {
		name string
		text string
		want api.Errno
	}{
		{"bytes that end too early", "\x05\x01", api.ErrShort},
		{"no such kind", "\x63", api.ErrForm},
		{"a number beyond its limit", "\x05\x01\x10", api.ErrOver},
		{"a number that must be 1 or more", "\x05\x00", api.ErrForm},
		{"bytes that end too early behind a record", of(drops(1)) + "\x05", api.ErrShort},
		{"no such space", of(drops(2)), api.ErrSpace},
		{"a space that is there", of(makes(1, 5)), api.ErrSpace},
		{"a page beyond the quota", of(puts(1, 5, 40)), api.ErrPage},
		{"a page that stands nowhere", of(api.Record{Kind: api.RecTrim, Space: 1}), api.ErrPage},
		{"a place at which nothing stands", of(moves(40, 41)), api.ErrPlace},
		{"a place at which something stands", of(puts(1, 0, 40), puts(1, 1, 41), moves(40, 41)), api.ErrPlace},
		{"behind one that may be", of(drops(1), drops(1)), api.ErrSpace},
		{"of several the first one", of(moves(40, 41), drops(2), puts(1, 5, 40)), api.ErrPlace},
		{"of several the first one in the text, too", of(puts(1, 5, 40), moves(40, 41)), api.ErrPage},
		{"of one that can't be read and one that is refused the former", of(drops(2)) + "\x63", api.ErrForm},
	}
}

func TestRebuildOfRecordsThatMayNotBe(t *testing.T) {
	one := group.Pack([]api.Record{makes(1, 5)}, 100)[0]
	base := check(0, 10, 0, 1, makes(1, 5))
	for _, c := range refusedTexts() {
		t.Run(c.name, func(t *testing.T) {
			wantRefused(t, []api.Found{said(check(0, 10, 0, 1), one+c.text)}, c.want)
			wantRefused(t, []api.Found{check(0, 10, 0, 2, makes(1, 5)), said(check(1, 10, 1, 2), c.text)}, c.want)
			wantRefused(t, []api.Found{base, said(note(1, 11, 0, 1), c.text)}, c.want)
			wantRefused(t, []api.Found{base, note(1, 11, 0, 2), said(note(2, 12, 1, 2), c.text)}, c.want)
			wantRefused(t, []api.Found{base, note(1, 11, 0, 1), said(note(2, 12, 0, 1), c.text), note(3, 13, 0, 1)}, c.want)
			// A newer one that is refused is not passed over for an older one.
			wantRefused(t, []api.Found{check(9, 9, 0, 1), said(check(0, 10, 0, 1), one+c.text)}, c.want)
			// Where nothing is done with it nothing is refused.
			for _, f := range []api.Found{
				classed(said(note(1, 11, 0, 1), c.text), api.ClassTorn),
				said(note(1, 11, 0, 2), c.text),
				said(note(1, 11, 1, 2), c.text),
				said(note(1, 10, 0, 1), c.text),
				said(note(1, 9, 0, 1), c.text),
				said(check(1, 9, 0, 1), c.text),
				said(check(1, 11, 0, 2), c.text),
				said(data(1, 11), c.text),
			} {
				m, e := Rebuild([]api.Found{base, f})
				wantImage(t, m, e, []api.Record{makes(1, 5)}, max(10, seqIfValid(f))+1, 10, []int{0})
			}
		})
	}
}

func seqIfValid(f api.Found) uint64 {
	if f.Class != api.ClassValid {
		return 0
	}
	return f.Tag.Seq
}

func TestRebuildTellsTheFirstError(t *testing.T) {
	base := check(0, 10, 0, 1, makes(1, 5))
	short := said(note(1, 11, 0, 1), "\x05")
	place := note(2, 12, 0, 1, moves(40, 41))
	wantRefused(t, []api.Found{base, short, place}, api.ErrShort)
	wantRefused(t, []api.Found{base, place, short}, api.ErrShort)
	short.Tag.Seq = 13
	wantRefused(t, []api.Found{base, short, place}, api.ErrPlace)
	base.Text = group.Pack([]api.Record{drops(1)}, 100)[0]
	wantRefused(t, []api.Found{short, place, base}, api.ErrSpace)
}

// A text ends with its page: a record does not go on in the next one.
func TestRebuildReadsPageByPage(t *testing.T) {
	one := group.Pack([]api.Record{makes(1, 5)}, 100)[0]
	wantRefused(t, []api.Found{said(check(0, 10, 0, 2), one[:2]), said(check(1, 10, 1, 2), one[2:])}, api.ErrShort)
	wantRefused(t, []api.Found{check(9, 10, 0, 1), said(note(0, 11, 0, 2), one[:2]), said(note(1, 12, 1, 2), one[2:])}, api.ErrShort)
}

func TestNoImage(t *testing.T) {
	var none *Image
	for _, m := range []*Image{none, {}} {
		if m.State() != nil || m.Next() != 0 || m.Check() != 0 || len(m.Meta()) != 0 {
			t.Error(m.State(), m.Next(), m.Check(), m.Meta())
		}
	}
}

func TestImageOwnsItsState(t *testing.T) {
	l := []api.Found{check(0, 10, 0, 1, makes(1, 5))}
	m, _ := Rebuild(l)
	other, _ := Rebuild(l)
	if e := m.State().Apply(puts(1, 2, 30)); e != api.OK {
		t.Fatal(e)
	}
	if at, is := m.State().Get(1, 2); !is || at != 30 {
		t.Error("what is done to the state is not done there")
	}
	if other.State().Live() != 0 {
		t.Error("two images have one state")
	}
}

func TestImageKeepsWhatItTold(t *testing.T) {
	l := []api.Found{note(5, 12, 0, 1, puts(1, 2, 31)), note(4, 11, 0, 1, puts(1, 2, 30)), check(3, 10, 0, 1, makes(1, 5))}
	before := slices.Clone(l)
	m, e := Rebuild(l)
	if !slices.Equal(l, before) {
		t.Error("the list was changed", l)
	}
	meta := m.Meta()
	clear(meta)
	meta = append(meta[:0], 7, 8, 9)
	clear(l)
	wantImage(t, m, e, []api.Record{makes(1, 5), puts(1, 2, 31)}, 13, 10, []int{3, 4, 5})
	if !slices.Equal(meta, []int{7, 8, 9}) {
		t.Error("the answer is not the caller's own")
	}
}

// wantPlain holds what is rebuilt against the plain reading.
func wantPlain(t *testing.T, l []api.Found) api.Errno {
	t.Helper()
	before := slices.Clone(l)
	m, e := Rebuild(l)
	want, wantErr := plainRebuild(l)
	if !slices.Equal(l, before) {
		t.Fatal("the list was changed", before)
	}
	if e != wantErr || (m == nil) != (e != api.OK) {
		t.Fatal(l, e, "want", wantErr)
	}
	if e == api.OK && (m.Next() != want.next || m.Check() != want.check || !slices.Equal(m.Meta(), want.meta) || !slices.Equal(m.State().Dump(), want.dump)) {
		t.Fatal(l, *m, m.State().Dump(), "want", want)
	}
	return e
}

// All short lists of pages that differ in what counts, behind one that makes space 1.
func TestRebuildOfAllShortLists(t *testing.T) {
	some := []api.Found{
		note(0, 11, 0, 1, puts(1, 0, 20)), note(0, 11, 0, 2, puts(1, 1, 21)), note(0, 12, 1, 2, puts(1, 1, 22)),
		note(0, 12, 0, 2, puts(1, 2, 23)), note(0, 13, 1, 2, puts(1, 2, 24)), note(0, 12, 1, 3, puts(1, 3, 25)),
		note(0, 13, 2, 3, moves(21, 26)), note(0, 11, 0, 3, puts(1, 4, 21)), check(0, 11, 0, 1, makes(1, 5), puts(1, 0, 30)),
		classed(note(0, 12, 1, 2), api.ClassTorn), data(0, 14), note(0, 10, 0, 1, drops(1)),
	}
	var all func(l []api.Found, left int)
	all = func(l []api.Found, left int) {
		wantPlain(t, l)
		if left == 0 {
			return
		}
		for _, f := range some {
			f.At = len(l)
			all(append(l[:len(l):len(l)], f), left-1)
		}
	}
	all([]api.Found{check(0, 10, 0, 1, makes(1, 5))}, 4)
}

// randomRecord may be refused only seldom, so that whole lists are done.
func randomRecord(r *rand.Rand) api.Record {
	switch r.Intn(40) {
	case 0:
		return moves(r.Intn(20), r.Intn(20))
	case 1:
		return api.Record{Kind: api.RecTrim, Space: 1, Page: r.Intn(5)}
	case 2:
		return makes(2, 1+r.Intn(5))
	case 3:
		return drops(2)
	case 4:
		return api.Record{Kind: api.RecBad, At: r.Intn(32)}
	case 5:
		return api.Record{Kind: api.RecWorn, At: r.Intn(32), N: r.Intn(9)}
	}
	return puts(1, r.Intn(5), r.Intn(20))
}

func TestRebuildOfRandomLists(t *testing.T) {
	r := rand.New(rand.NewSource(15))
	seen := map[api.Errno]int{}
	for range 20000 {
		l := []api.Found{check(500, uint64(1+r.Intn(6)), 0, 1, makes(1, 5))}
		for seq := uint64(0); len(l) < 30 && r.Intn(25) > 0; {
			kind, of := api.PageJournal, 1+r.Intn(4)
			if r.Intn(12) == 0 {
				kind = 1 + r.Intn(3)
			}
			for i := range of {
				f := found(kind, r.Intn(500), seq, i, of, randomRecord(r), randomRecord(r))
				if kind == api.PageCheck && i == 0 {
					f = check(f.At, seq, i, of, makes(1, 5))
				}
				if r.Intn(12) > 0 {
					l = append(l, f)
				}
				if kind != api.PageCheck || i == of-1 {
					seq++
				}
			}
			if r.Intn(8) == 0 {
				seq -= min(seq, uint64(r.Intn(4)))
			}
		}
		for i := range l {
			switch r.Intn(60) {
			case 0:
				l[i].Class = r.Intn(3)
			case 1:
				l[i].Tag.Index += r.Intn(3) - 1
			case 2:
				l[i].Tag.Of += r.Intn(3) - 1
			case 3:
				l[i].Text = l[i].Text[:r.Intn(len(l[i].Text)+1)]
			}
		}
		if r.Intn(2) == 0 {
			r.Shuffle(len(l), func(i, j int) { l[i], l[j] = l[j], l[i] })
		}
		seen[wantPlain(t, l)]++
	}
	for _, e := range []api.Errno{api.OK, api.ErrBlank, api.ErrShort, api.ErrSpace, api.ErrPage, api.ErrPlace} {
		if seen[e] == 0 {
			t.Error("no list came to", e)
		}
	}
}

func TestRebuildOfManyPages(t *testing.T) {
	const of = 65535
	l := make([]api.Found, 0, of+2)
	l = append(l, check(0, 10, 0, 1, makes(1, 5)))
	for i := range of {
		l = append(l, note(of-i, uint64(10+of-i), of-1-i, of))
	}
	m, e := Rebuild(l)
	if e != api.OK || m.Next() != 11+of || len(m.Meta()) != of+1 {
		t.Fatal(e)
	}
	for i, at := range m.Meta() {
		if at != i {
			t.Fatal(i, at)
		}
	}
	m, e = Rebuild(l[:of])
	wantImage(t, m, e, []api.Record{makes(1, 5)}, 11+of, 10, []int{0})
}

// bench is a chip on which spaces are kept as the layer above will do it: a checkpoint now and then, groups behind it.
type bench struct {
	t     *testing.T
	r     *rand.Rand
	chip  *nand.Chip
	w     *write.Writer
	seq   uint64
	check uint64
	told  *state.State // what was told as written
	next  *state.State // that with what is under way
	meta  []int
}

// step writes a page of data, a group of the journal, or a checkpoint.
func (b *bench) step() api.Errno {
	b.next = b.told.Copy()
	switch b.r.Intn(6) {
	case 0:
		_, e := b.w.Append(api.Tag{Kind: api.PageData, Seq: b.seq, Of: 1}, "data")
		b.seq++
		return e
	case 1:
		return b.checkpoint()
	}
	var l []api.Record
	for range b.r.Intn(20) {
		if r := randomRecord(b.r); b.next.Apply(r) == api.OK {
			l = append(l, r)
		}
	}
	at, next, e := ckpt.Write(b.w, l, api.PageJournal, b.seq, small.Size)
	b.seq = next
	if e == api.OK {
		b.meta = append(b.meta, at...)
		b.told = b.next
	}
	return e
}

// checkpoint writes all that was told as written.
func (b *bench) checkpoint() api.Errno {
	at, next, e := ckpt.Write(b.w, b.told.Dump(), api.PageCheck, b.seq, small.Size)
	if e == api.OK {
		b.check, b.meta = b.seq, at
	}
	b.seq = next
	return e
}

// found asks that what is found is what was told, or that with what is under way; and the same, if it is asked again.
func (b *bench) found() {
	b.t.Helper()
	l := allOf(b.t, b.chip)
	m, e := Rebuild(l)
	if e != api.OK {
		b.t.Fatal(e)
	}
	dump := m.State().Dump()
	if !slices.Equal(dump, b.told.Dump()) && !slices.Equal(dump, b.next.Dump()) {
		b.t.Fatal("found", dump, "told", b.told.Dump(), "under way", b.next.Dump())
	}
	// A writer that goes on with its own count is never behind what stands on the chip.
	if m.Next() > b.seq {
		b.t.Fatal(m.Next(), b.seq)
	}
	again, e := Rebuild(allOf(b.t, b.chip))
	if e != api.OK {
		b.t.Fatal(e)
	}
	wantImage(b.t, again, e, dump, m.Next(), m.Check(), m.Meta())
}

// Wherever the power fails, and whatever block does: what is found is what was written, whole.
func TestThereAndBack(t *testing.T) {
	r := rand.New(rand.NewSource(151))
	for range 1500 {
		b := &bench{t: t, r: r, chip: chipOf(t, small, api.Faults{}), seq: uint64(r.Intn(100)), told: state.New()}
		b.w = writerOf(t, b.chip)
		b.told.Apply(makes(1, 5))
		e := b.checkpoint()
		if e != api.OK {
			t.Fatal(e)
		}
		f := api.Faults{Cuts: []api.Cut{{At: 1 + r.Intn(30), Keep: r.Intn(130) - 5, Fill: byte(r.Intn(256))}}}
		if r.Intn(2) == 0 {
			f.Fails = []int{1 + r.Intn(20)}
		}
		b.chip.Arm(f)
		for e = api.OK; e == api.OK; {
			if e = b.step(); e == api.OK {
				m, err := Rebuild(allOf(t, b.chip))
				wantImage(t, m, err, b.told.Dump(), b.seq, b.check, b.meta)
			}
		}
		if e != api.ErrOff && e != api.ErrFull {
			t.Fatal(e)
		}
		b.chip.Power()
		b.found()
	}
}
