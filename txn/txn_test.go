package txn

import (
	"math"
	"math/rand"
	"slices"
	"strings"
	"testing"

	"tinderbox/api"
	"tinderbox/ftl"
	"tinderbox/nand"
	"tinderbox/state"
)

// wide is room that no test here fills.
var wide = api.Room{Places: 1000, Keys: 1000}

func trim(id, page int) api.Record { return api.Record{Kind: api.RecTrim, Space: id, Page: page} }
func make1(id, n int) api.Record   { return api.Record{Kind: api.RecMake, Space: id, N: n} }
func drop(id int) api.Record       { return api.Record{Kind: api.RecDrop, Space: id} }
func copy1(id, to int) api.Record  { return api.Record{Kind: api.RecCopy, Space: id, To: to} }
func seal(id int) api.Record       { return api.Record{Kind: api.RecSeal, Space: id} }

// laid is a state with space 1 (4 pages, 0 at 5 and 1 at 6), space 2 (a copy of it, sealed), and space 3 (2 pages, none there).
func laid(t *testing.T) *state.State {
	t.Helper()
	s := state.New()
	for _, r := range []api.Record{
		make1(1, 4),
		{Kind: api.RecPut, Space: 1, Page: 0, At: 5},
		{Kind: api.RecPut, Space: 1, Page: 1, At: 6},
		copy1(1, 2), seal(2), make1(3, 2),
	} {
		if e := s.Apply(r); e != api.OK {
			t.Fatalf("%+v: %d", r, e)
		}
	}
	return s
}

// over is a transaction over laid.
func over(t *testing.T, room api.Room, size int) *Txn {
	t.Helper()
	return New(laid(t), room, size)
}

// must fails, if an error is another one.
func must(t *testing.T, what string, got, want api.Errno) {
	t.Helper()
	if got != want {
		t.Errorf("%s: %d, not %d", what, got, want)
	}
}

// many makes as many changes as may be, that all let pages be where they are.
func many(t *testing.T, x *Txn) {
	t.Helper()
	for range api.MostTx {
		must(t, "seal", x.Do(seal(2)), api.OK)
	}
}

// snapshot is all that a transaction tells.
type snapshot struct {
	changes []api.Change
	spaces  []api.Space
	pages   []leaf
}

func look(x *Txn) snapshot {
	s := snapshot{changes: x.Changes(), spaces: x.Spaces()}
	for id := -1; id <= api.MostSpace+1; id++ {
		for _, page := range []int{-1, 0, 1, 2, 3, 4, 5, 1023, 1024} {
			if text, at, is := x.Get(id, page); is {
				s.pages = append(s.pages, leaf{space: id, page: page, at: at, text: text})
			} else if text != "" || at != 0 {
				s.pages = append(s.pages, leaf{space: id, page: page, at: -1})
			}
		}
	}
	return s
}

func (s snapshot) equals(o snapshot) bool {
	return slices.Equal(s.changes, o.changes) && slices.Equal(s.spaces, o.spaces) && slices.Equal(s.pages, o.pages)
}

func TestNewTellsWhatTheStateHas(t *testing.T) {
	x := over(t, wide, 64)
	if len(x.Changes()) != 0 {
		t.Error("changes ahead of any")
	}
	want := []api.Space{{ID: 1, Quota: 4, Pages: 2}, {ID: 2, Quota: 4, Pages: 2, Sealed: true}, {ID: 3, Quota: 2}}
	if got := x.Spaces(); !slices.Equal(got, want) {
		t.Error(got)
	}
	for _, l := range []leaf{{space: 1, page: 0, at: 5}, {space: 1, page: 1, at: 6}, {space: 2, page: 0, at: 5}, {space: 2, page: 1, at: 6}} {
		if text, at, is := x.Get(l.space, l.page); text != "" || at != l.at || !is {
			t.Error(l, text, at, is)
		}
	}
	for _, no := range [][2]int{{1, 2}, {1, -1}, {1, 1024}, {3, 0}, {4, 0}, {0, 0}, {-1, 0}, {16, 0}, {math.MinInt, math.MaxInt}} {
		if text, at, is := x.Get(no[0], no[1]); text != "" || at != 0 || is {
			t.Error(no, text, at, is)
		}
	}
}

func TestStateIsNotShared(t *testing.T) {
	s := laid(t)
	early := New(s, wide, 64)
	must(t, "apply", s.Apply(drop(1)), api.OK)
	if !look(early).equals(look(over(t, wide, 64))) {
		t.Error("what is handed in is kept")
	}
	s = laid(t)
	before := s.Dump()
	x := New(s, wide, 64)
	must(t, "put", x.Put(1, 0, "a"), api.OK)
	must(t, "drop", x.Do(drop(3)), api.OK)
	if !slices.Equal(s.Dump(), before) {
		t.Error("what is handed in was changed")
	}
	seen := look(x)
	must(t, "apply", s.Apply(drop(1)), api.OK)
	must(t, "apply", s.Apply(make1(9, 1)), api.OK)
	if !look(x).equals(seen) {
		t.Error("what is handed in is kept")
	}
}

func TestPutErrors(t *testing.T) {
	for _, c := range []struct {
		id, page int
		text     string
		want     api.Errno
	}{
		{1, 0, "", api.OK},
		{1, 3, "12345678", api.OK},
		{1, 0, "123456789", api.ErrLong},
		{1, 4, "", api.ErrPage},
		{1, -1, "", api.ErrPage},
		{1, 1023, "", api.ErrPage},
		{1, 1024, "", api.ErrPage},
		{1, math.MaxInt, "", api.ErrPage},
		{1, math.MinInt, "", api.ErrPage},
		{2, 0, "", api.ErrSealed},
		{2, -1, "", api.ErrSealed},
		{3, 1, "", api.OK},
		{3, 2, "", api.ErrPage},
		{4, 0, "", api.ErrSpace},
		{0, 0, "", api.ErrSpace},
		{-1, -1, "", api.ErrSpace},
		{16, 0, "", api.ErrSpace},
		{math.MaxInt, 0, "", api.ErrSpace},
	} {
		x := over(t, wide, 8)
		before := look(x)
		must(t, c.text, x.Put(c.id, c.page, c.text), c.want)
		if look(x).equals(before) != (c.want != api.OK) {
			t.Errorf("%+v: what is refused is done, or what is not is not", c)
		}
	}
}

func TestPutIntoSealed(t *testing.T) {
	x := New(state.New(), wide, 64)
	must(t, "make", x.Do(make1(1, 1)), api.OK)
	must(t, "put", x.Put(1, 0, "a"), api.OK)
	must(t, "seal", x.Do(seal(1)), api.OK)
	must(t, "put", x.Put(1, 0, "b"), api.ErrSealed)
	must(t, "trim", x.Do(trim(1, 0)), api.ErrSealed)
	must(t, "copy", x.Do(copy1(1, 2)), api.OK)
	must(t, "put into the copy", x.Put(2, 0, "b"), api.OK)
	must(t, "drop", x.Do(drop(1)), api.OK)
	must(t, "make", x.Do(make1(1, 1)), api.OK)
	must(t, "put into a new one", x.Put(1, 0, "b"), api.OK)
}

// TestPutOrder: where several errors apply, the one that is named first is told.
func TestPutOrder(t *testing.T) {
	none := api.Room{}
	long := strings.Repeat("x", 9)
	full := over(t, wide, 8)
	many(t, full)
	must(t, "long, no space, many", full.Put(4, 9, long), api.ErrLong)
	must(t, "long, sealed, many", full.Put(2, 9, long), api.ErrLong)
	must(t, "no space, many, page", full.Put(4, 9, ""), api.ErrSpace)
	must(t, "sealed, many, page", full.Put(2, 9, ""), api.ErrSealed)
	must(t, "many, page", full.Put(1, 9, ""), api.ErrMany)
	must(t, "many", full.Put(1, 0, ""), api.ErrMany)
	tight := over(t, none, 8)
	must(t, "long, page, room", tight.Put(1, 9, long), api.ErrLong)
	must(t, "no space, room", tight.Put(4, 9, ""), api.ErrSpace)
	must(t, "sealed, room", tight.Put(2, 0, ""), api.ErrSealed)
	must(t, "page, room", tight.Put(1, 9, ""), api.ErrPage)
	must(t, "room", tight.Put(1, 0, ""), api.ErrRoom)
	full.room = none
	must(t, "many, room", full.Put(1, 0, ""), api.ErrMany)
}

func TestSizes(t *testing.T) {
	must(t, "none", over(t, wide, 0).Put(1, 0, ""), api.OK)
	must(t, "one", over(t, wide, 0).Put(1, 0, "a"), api.ErrLong)
	must(t, "below none", over(t, wide, -1).Put(1, 0, ""), api.ErrLong)
	must(t, "as long", over(t, wide, 256).Put(1, 0, strings.Repeat("\xff", 256)), api.OK)
	x := New(state.New(), wide, 8)
	must(t, "make", x.Do(make1(1, api.MostQuota)), api.OK)
	must(t, "the last page", x.Put(1, api.MostQuota-1, ""), api.OK)
	must(t, "the one behind it", x.Put(1, api.MostQuota, ""), api.ErrPage)
	must(t, "longer", over(t, wide, 256).Put(1, 0, strings.Repeat("\xff", 257)), api.ErrLong)
}

func TestManyChanges(t *testing.T) {
	x := over(t, wide, 8)
	for range api.MostTx - 1 {
		must(t, "put", x.Put(1, 0, "a"), api.OK)
		must(t, "refused ones do not count", x.Put(1, 4, "a"), api.ErrPage)
		must(t, "refused ones do not count", x.Do(drop(9)), api.ErrSpace)
	}
	must(t, "the last one", x.Do(trim(1, 0)), api.OK)
	before := look(x)
	must(t, "put", x.Put(1, 0, "a"), api.ErrMany)
	for _, r := range []api.Record{trim(1, 1), make1(4, 1), drop(1), copy1(1, 4), seal(1)} {
		must(t, "do", x.Do(r), api.ErrMany)
	}
	if !look(x).equals(before) || len(x.Changes()) != api.MostTx {
		t.Error("what is refused is done")
	}
}

// TestPlaces: each Put is a place of its own; one that nobody needs any more is free again.
func TestPlaces(t *testing.T) {
	x := over(t, api.Room{Places: 3, Keys: 100}, 8)
	// Pages 0 and 1 of space 2 stand at 5 and 6 still.
	must(t, "a third place", x.Put(1, 0, "same"), api.OK)
	must(t, "a fourth one", x.Put(1, 1, "same"), api.ErrRoom)
	must(t, "a fourth one", x.Put(3, 0, "same"), api.ErrRoom)
	must(t, "in the place of the third one", x.Put(1, 0, "same"), api.OK)
	must(t, "of both the places are needed no more", x.Do(drop(2)), api.OK)
	must(t, "in the place of the first one", x.Put(3, 0, "same"), api.OK)
	must(t, "page 1 is needed no more", x.Put(1, 1, "same"), api.OK)
	must(t, "a fourth one", x.Put(3, 1, "same"), api.ErrRoom)
	must(t, "a copy takes none", x.Do(copy1(3, 4)), api.OK)
	must(t, "but what both have does", x.Put(4, 0, "other"), api.ErrRoom)
	must(t, "behind a trim", x.Do(trim(1, 0)), api.OK)
	must(t, "there is one", x.Put(4, 0, "other"), api.OK)
}

func TestKeys(t *testing.T) {
	x := over(t, api.Room{Places: 100, Keys: 5}, 8)
	must(t, "a fifth page", x.Put(3, 0, ""), api.OK)
	must(t, "a sixth one", x.Put(3, 1, ""), api.ErrRoom)
	must(t, "a page that is there", x.Put(3, 0, ""), api.OK)
	must(t, "a copy of one page", x.Do(copy1(3, 4)), api.ErrRoom)
	must(t, "trim", x.Do(trim(1, 1)), api.OK)
	must(t, "a copy of one page", x.Do(copy1(3, 4)), api.OK)
	must(t, "a copy of no page", x.Do(trim(3, 0)), api.OK)
	must(t, "a copy of no page", x.Do(copy1(3, 5)), api.OK)
	must(t, "a copy of two pages", x.Do(copy1(2, 6)), api.ErrRoom)
}

// TestNoRoomAtAll: what stands at too many places behind a change is refused, even if the change makes them fewer.
func TestNoRoomAtAll(t *testing.T) {
	for _, room := range []api.Room{{}, {Places: 1, Keys: 100}, {Places: 100, Keys: 2}, {Places: -1, Keys: -1}, {Places: math.MinInt, Keys: math.MaxInt}} {
		x := over(t, room, 8)
		before := look(x)
		must(t, "put", x.Put(1, 0, ""), api.ErrRoom)
		for _, r := range []api.Record{trim(1, 0), make1(4, 1), drop(3), copy1(1, 4), seal(1)} {
			must(t, "do", x.Do(r), api.ErrRoom)
		}
		if !look(x).equals(before) {
			t.Error("what is refused is done")
		}
	}
	x := over(t, api.Room{Places: 2, Keys: 2}, 8)
	must(t, "two pages are left", x.Do(drop(1)), api.OK)
	x = New(state.New(), api.Room{Reserve: 100, Spare: 100}, 8)
	must(t, "no room is room for no page", x.Do(make1(1, 1)), api.OK)
	must(t, "but for none", x.Put(1, 0, ""), api.ErrRoom)
}

// TestDoInput: records that are none of those, or that may not be.
func TestDoInput(t *testing.T) {
	x := over(t, wide, 8)
	many(t, x)
	x.room = api.Room{}
	before := look(x)
	for _, r := range []api.Record{
		{},
		{Kind: -1, Space: 1},
		{Kind: 10, Space: 1},
		{Kind: math.MaxInt, Space: 1},
		{Kind: api.RecPut, Space: 1},
		{Kind: api.RecPut, Space: 1, At: 7},
		{Kind: api.RecMove, At: 5, To: 7},
		{Kind: api.RecMove},
		{Kind: api.RecBad, At: 1},
		{Kind: api.RecWorn, At: 1, N: 1},
		trim(0, 0), trim(16, 0), trim(1, -1), trim(1, 1024),
		{Kind: api.RecTrim, Space: 1, At: 5}, {Kind: api.RecTrim, Space: 1, N: 1}, {Kind: api.RecTrim, Space: 1, To: 1},
		make1(0, 1), make1(16, 1), make1(4, 0), make1(4, 1025), make1(4, -1),
		{Kind: api.RecMake, Space: 4, N: 1, Page: 1},
		drop(0), drop(-1), drop(16),
		{Kind: api.RecDrop, Space: 1, N: 1},
		copy1(0, 4), copy1(1, 0), copy1(1, 16), copy1(16, 4),
		{Kind: api.RecCopy, Space: 1, To: 4, At: 1},
		seal(0), seal(16),
		{Kind: api.RecSeal, Space: 1, Page: 1},
	} {
		if got := x.Do(r); got != api.ErrInput {
			t.Errorf("%+v: %d", r, got)
		}
	}
	if !look(x).equals(before) {
		t.Error("what is refused is done")
	}
}

func TestDoErrors(t *testing.T) {
	for _, c := range []struct {
		r    api.Record
		want api.Errno
	}{
		{trim(1, 0), api.OK},
		{trim(1, 2), api.ErrPage},
		{trim(1, 1023), api.ErrPage},
		{trim(2, 0), api.ErrSealed},
		{trim(2, 3), api.ErrSealed},
		{trim(4, 0), api.ErrSpace},
		{make1(4, 1), api.OK},
		{make1(15, 1024), api.OK},
		{make1(1, 1), api.ErrSpace},
		{drop(1), api.OK},
		{drop(2), api.OK},
		{drop(4), api.ErrSpace},
		{copy1(1, 4), api.OK},
		{copy1(2, 4), api.OK},
		{copy1(1, 1), api.ErrSpace},
		{copy1(1, 3), api.ErrSpace},
		{copy1(4, 5), api.ErrSpace},
		{seal(1), api.OK},
		{seal(4), api.ErrSpace},
	} {
		x := over(t, wide, 8)
		before := look(x)
		if got := x.Do(c.r); got != c.want {
			t.Errorf("%+v: %d, not %d", c.r, got, c.want)
		}
		if look(x).equals(before) != (c.want != api.OK) {
			t.Errorf("%+v: what is refused is done, or what is not is not", c.r)
		}
	}
}

// TestDoOrder: where several errors apply, the one that is named first is told.
func TestDoOrder(t *testing.T) {
	full := over(t, wide, 8)
	many(t, full)
	must(t, "no space, many", full.Do(trim(4, 0)), api.ErrSpace)
	must(t, "sealed, many, page", full.Do(trim(2, 3)), api.ErrSealed)
	must(t, "many, page", full.Do(trim(1, 3)), api.ErrMany)
	must(t, "many, no space", full.Do(drop(4)), api.ErrMany)
	must(t, "many, a space", full.Do(make1(1, 1)), api.ErrMany)
	must(t, "many, no space", full.Do(copy1(4, 5)), api.ErrMany)
	must(t, "many, no space", full.Do(seal(4)), api.ErrMany)
	full.room = api.Room{}
	must(t, "many, room", full.Do(trim(1, 0)), api.ErrMany)
	tight := over(t, api.Room{}, 8)
	must(t, "no space, room", tight.Do(trim(4, 0)), api.ErrSpace)
	must(t, "sealed, room", tight.Do(trim(2, 0)), api.ErrSealed)
	must(t, "page, room", tight.Do(trim(1, 3)), api.ErrPage)
	must(t, "no space, room", tight.Do(drop(4)), api.ErrSpace)
	must(t, "room", tight.Do(drop(3)), api.ErrRoom)
}

func TestChangesInTheirOrder(t *testing.T) {
	x := over(t, wide, 8)
	must(t, "make", x.Do(make1(7, 3)), api.OK)
	must(t, "put", x.Put(7, 2, "a"), api.OK)
	must(t, "put", x.Put(1, 0, ""), api.OK)
	must(t, "put", x.Put(7, 2, "b"), api.OK)
	must(t, "trim", x.Do(trim(1, 1)), api.OK)
	must(t, "copy", x.Do(copy1(7, 4)), api.OK)
	must(t, "drop", x.Do(drop(7)), api.OK)
	must(t, "seal", x.Do(seal(4)), api.OK)
	want := []api.Change{
		{Record: make1(7, 3)},
		{Record: api.Record{Kind: api.RecPut, Space: 7, Page: 2}, Text: "a"},
		{Record: api.Record{Kind: api.RecPut, Space: 1, Page: 0}},
		{Record: api.Record{Kind: api.RecPut, Space: 7, Page: 2}, Text: "b"},
		{Record: trim(1, 1)}, {Record: copy1(7, 4)}, {Record: drop(7)}, {Record: seal(4)},
	}
	if got := x.Changes(); !slices.Equal(got, want) {
		t.Error(got)
	}
	if text, at, is := x.Get(4, 2); text != "b" || at < api.MostAt || !is {
		t.Error("a page that was put, and copied:", text, at, is)
	}
	if _, _, is := x.Get(7, 2); is {
		t.Error("a page of a space that was dropped")
	}
	spaces := []api.Space{{ID: 1, Quota: 4, Pages: 1}, {ID: 2, Quota: 4, Pages: 2, Sealed: true}, {ID: 3, Quota: 2}, {ID: 4, Quota: 3, Pages: 1, Sealed: true}}
	if got := x.Spaces(); !slices.Equal(got, spaces) {
		t.Error(got)
	}
}

func TestGetOfWhatIsPut(t *testing.T) {
	x := over(t, wide, 8)
	must(t, "put", x.Put(1, 0, "a"), api.OK)
	must(t, "put", x.Put(1, 2, "a"), api.OK)
	must(t, "put", x.Put(3, 0, ""), api.OK)
	at := []int{}
	for _, l := range []leaf{{space: 1, page: 0, text: "a"}, {space: 1, page: 2, text: "a"}, {space: 3, page: 0}} {
		text, place, is := x.Get(l.space, l.page)
		if text != l.text || place < api.MostAt || !is {
			t.Error(l, text, place, is)
		}
		at = append(at, place)
	}
	if at[0] == at[1] || at[1] == at[2] || at[0] == at[2] {
		t.Error("two that were put stand at one place:", at)
	}
	if text, place, is := x.Get(2, 0); text != "" || place != 5 || !is {
		t.Error("what a copy has that was there is not put:", text, place, is)
	}
	must(t, "trim", x.Do(trim(1, 0)), api.OK)
	if text, place, is := x.Get(1, 0); text != "" || place != 0 || is {
		t.Error("trimmed:", text, place, is)
	}
	must(t, "put", x.Put(1, 0, "b"), api.OK)
	if text, _, is := x.Get(1, 0); text != "b" || !is {
		t.Error("put again:", text, is)
	}
}

// TestPlacesOfNoChip: Lay may lay a page at a place that no chip has; it is not one that was put here.
func TestPlacesOfNoChip(t *testing.T) {
	s := laid(t)
	odd := map[int]int{0: api.MostAt + 3, 1: api.MostAt + 11, 2: api.MostAt + 40, 3: math.MaxInt}
	for page, at := range odd {
		must(t, "lay", s.Lay(1, page, at), api.OK)
	}
	x := New(s, wide, 8)
	for n := range api.MostTx {
		must(t, "put", x.Put(3, n%2, string(rune('a'+n))), api.OK)
		if text, at, is := x.Get(3, n%2); text != string(rune('a'+n)) || at < api.MostAt || !is {
			t.Error(n, text, at, is)
		}
		for page, want := range odd {
			if text, at, is := x.Get(1, page); text != "" || at != want || !is {
				t.Error(page, text, at, is)
			}
		}
	}
}

func TestAnswersAreTheCallersOwn(t *testing.T) {
	x := over(t, wide, 8)
	must(t, "put", x.Put(1, 0, "a"), api.OK)
	before := look(x)
	changes, spaces := x.Changes(), x.Spaces()
	changes[0].Text, spaces[0].Quota = "b", 99
	_ = append(changes, api.Change{Text: "c"})
	must(t, "put", x.Put(1, 1, "d"), api.OK)
	changes[0].Text = "e"
	after := look(x)
	if !slices.Equal(after.changes[:1], before.changes) || !slices.Equal(after.spaces, before.spaces) || after.changes[1].Text != "d" {
		t.Error("an answer is shared")
	}
	if len(changes) != 1 {
		t.Error("what is done later changes an answer")
	}
}

func TestNone(t *testing.T) {
	for _, x := range []*Txn{nil, {}, New(nil, wide, 64)} {
		must(t, "put", x.Put(1, 0, strings.Repeat("x", 65)), api.ErrInput)
		must(t, "put", x.Put(1, 0, ""), api.ErrInput)
		must(t, "do", x.Do(make1(1, 1)), api.ErrInput)
		must(t, "do", x.Do(trim(1, 1)), api.ErrInput)
		must(t, "do", x.Do(api.Record{}), api.ErrInput)
		if text, at, is := x.Get(1, 0); text != "" || at != 0 || is {
			t.Error(text, at, is)
		}
		if len(x.Changes()) != 0 || len(x.Spaces()) != 0 {
			t.Error("something")
		}
	}
}

// anyRecord is one that is near to what may be: few spaces, so that changes meet.
func anyRecord(r *rand.Rand) api.Record {
	switch r.Intn(12) {
	case 0, 1, 2:
		return trim(1+r.Intn(4), r.Intn(5))
	case 3, 4:
		return make1(1+r.Intn(4), 1+r.Intn(4))
	case 5:
		return drop(1 + r.Intn(4))
	case 6, 7, 8:
		return copy1(1+r.Intn(4), 1+r.Intn(4))
	case 9:
		return seal(1 + r.Intn(4))
	}
	return api.Record{Kind: r.Intn(11), Space: r.Intn(17), Page: r.Intn(2), At: r.Intn(2), To: r.Intn(2), N: r.Intn(2)}
}

// anyState is one of few spaces, whose pages share places.
func anyState(r *rand.Rand) *state.State {
	s := state.New()
	for range r.Intn(16) {
		switch x := anyRecord(r); r.Intn(3) {
		case 0:
			s.Apply(api.Record{Kind: api.RecPut, Space: 1 + r.Intn(4), Page: r.Intn(4), At: r.Intn(6)})
		default:
			s.Apply(x)
		}
	}
	return s
}

// TestAsThePlainOne: whatever is done, each answer is that of the plain one.
func TestAsThePlainOne(t *testing.T) {
	r := rand.New(rand.NewSource(17))
	errs := map[api.Errno]int{}
	for range 4000 {
		s, room, size := anyState(r), api.Room{Places: r.Intn(8), Keys: r.Intn(14)}, r.Intn(3)
		x, p := New(s, room, size), plainOf(s, room, size)
		for range 40 {
			var got, want api.Errno
			if r.Intn(2) == 0 {
				id, page, text := 1+r.Intn(4), r.Intn(6)-1, "xyz"[:r.Intn(size+2)]
				got = x.Put(id, page, text)
				p, want = p.put(id, page, text)
			} else {
				c := anyRecord(r)
				got = x.Do(c)
				p, want = p.do(c)
			}
			errs[want]++
			if got != want {
				t.Fatalf("%d, not %d, behind %+v", got, want, p.changes)
			}
			compare(t, x, p)
		}
	}
	for _, e := range []api.Errno{api.OK, api.ErrInput, api.ErrSpace, api.ErrPage, api.ErrSealed, api.ErrMany, api.ErrRoom, api.ErrLong} {
		if errs[e] < 100 {
			t.Errorf("error %d came %d times", e, errs[e])
		}
	}
}

// compare holds all that a transaction tells against the plain one.
func compare(t *testing.T, x *Txn, p plain) {
	t.Helper()
	if !slices.Equal(x.Changes(), p.changes) || !slices.Equal(x.Spaces(), p.all()) {
		t.Fatalf("%+v, %+v, not %+v, %+v", x.Changes(), x.Spaces(), p.changes, p.all())
	}
	for id := range 6 {
		for page := range 5 {
			text, at, is := x.Get(id, page)
			i := p.find(id, page)
			if is != (i >= 0) {
				t.Fatalf("page %d of %d: %t", page, id, is)
			}
			if !is {
				continue
			}
			if l := p.pages[i]; text != l.text || (at >= api.MostAt) != (l.put > 0) || l.put == 0 && at != l.at {
				t.Fatalf("page %d of %d: %q at %d, not %+v", page, id, text, at, l)
			}
		}
	}
}

// TestChangesCanBeCommitted: what a transaction lets be, a chip with that room does, and has behind it just what the transaction told.
func TestChangesCanBeCommitted(t *testing.T) {
	r := rand.New(rand.NewSource(18))
	g := api.Geometry{Blocks: 16, Pages: 8, Size: 64}
	c, _ := nand.New(g, api.Faults{})
	f, e := ftl.Format(c)
	must(t, "format", e, api.OK)
	tight := 0
	for range 400 {
		x := New(f.State(), f.Room(), g.Size)
		for range 12 {
			var e api.Errno
			switch r.Intn(8) {
			case 0:
				e = x.Do(anyRecord(r))
			case 1:
				e = x.Do(make1(1+r.Intn(4), 12))
			default:
				e = x.Put(1+r.Intn(4), r.Intn(12), strings.Repeat("x", r.Intn(g.Size+1)))
			}
			if e == api.ErrRoom {
				tight++
			}
		}
		want := map[[2]int]string{}
		for _, sp := range x.Spaces() {
			for page := range sp.Quota {
				text, at, is := x.Get(sp.ID, page)
				if is && at < api.MostAt {
					text, _ = f.ReadAt(at)
				}
				if is {
					want[[2]int{sp.ID, page}] = text
				}
			}
		}
		must(t, "commit", f.Commit(x.Changes()), api.OK)
		if !slices.Equal(f.State().Spaces(), x.Spaces()) {
			t.Fatal("other spaces")
		}
		for key, text := range want {
			if got, is, e := f.Read(key[0], key[1]); got != text || !is || e != api.OK {
				t.Fatal(key, got, is, e)
			}
		}
	}
	if tight < 20 {
		t.Errorf("there was no room %d times only", tight)
	}
}
