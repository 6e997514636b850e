package state

import (
	"math"
	"math/rand"
	"slices"
	"testing"

	"tinderbox/api"
)

func mk(id, quota int) api.Record     { return api.Record{Kind: 4, Space: id, N: quota} }
func drop(id int) api.Record          { return api.Record{Kind: 5, Space: id} }
func double(id, to int) api.Record    { return api.Record{Kind: 6, Space: id, To: to} }
func seal(id int) api.Record          { return api.Record{Kind: 7, Space: id} }
func put(id, page, at int) api.Record { return api.Record{Kind: 1, Space: id, Page: page, At: at} }
func trim(id, page int) api.Record    { return api.Record{Kind: 2, Space: id, Page: page} }
func move(at, to int) api.Record      { return api.Record{Kind: 3, At: at, To: to} }
func bad(b int) api.Record            { return api.Record{Kind: 8, At: b} }
func worn(b, n int) api.Record        { return api.Record{Kind: 9, At: b, N: n} }

// made is a state that records make of nothing.
func made(t *testing.T, l ...api.Record) *State {
	t.Helper()
	s := New()
	for _, r := range l {
		if e := s.Apply(r); e != 0 {
			t.Fatalf("%+v: %d", r, e)
		}
	}
	return s
}

// told is all that a state tells, of every place, page and block that may be and of some beside.
type told struct {
	spaces           []api.Space
	dump             []api.Record
	gets, refs, worn []int
	live, keys, bads int
	bad              []bool
}

func tell(s *State) told {
	l := told{spaces: s.Spaces(), dump: s.Dump(), live: s.Live(), keys: s.Keys(), bads: s.Bads()}
	for id := -1; id <= 16; id++ {
		if sp, is := s.Space(id); is {
			l.spaces = append(l.spaces, sp)
		}
		for page := -1; page <= 1025; page++ {
			if at, is := s.Get(id, page); is {
				l.gets = append(l.gets, id, page, at)
			}
		}
	}
	for at := -1; at <= 520; at++ {
		l.refs = append(l.refs, s.Refs(at))
	}
	for b := -1; b <= 33; b++ {
		l.worn = append(l.worn, s.Worn(b))
		l.bad = append(l.bad, s.Bad(b))
	}
	return l
}

func same(a, b told) bool {
	return slices.Equal(a.spaces, b.spaces) && slices.Equal(a.dump, b.dump) && slices.Equal(a.gets, b.gets) &&
		slices.Equal(a.refs, b.refs) && slices.Equal(a.worn, b.worn) && slices.Equal(a.bad, b.bad) &&
		a.live == b.live && a.keys == b.keys && a.bads == b.bads
}

func wantGet(t *testing.T, s *State, id, page, at int, is bool) {
	t.Helper()
	if a, i := s.Get(id, page); a != at || i != is {
		t.Errorf("Get(%d, %d): %d, %v; want %d, %v", id, page, a, i, at, is)
	}
}

func wantSpace(t *testing.T, s *State, want api.Space) {
	t.Helper()
	if sp, is := s.Space(want.ID); !is || sp != want {
		t.Errorf("%+v, %v; want %+v", sp, is, want)
	}
}

func wantCounts(t *testing.T, s *State, live, keys int) {
	t.Helper()
	if s.Live() != live || s.Keys() != keys {
		t.Errorf("live %d, keys %d; want %d, %d", s.Live(), s.Keys(), live, keys)
	}
}

func TestNewHasNothing(t *testing.T) {
	s := New()
	if s == nil || len(s.Spaces()) != 0 || len(s.Dump()) != 0 || s.Live() != 0 || s.Keys() != 0 || s.Bads() != 0 {
		t.Fatal("something is there")
	}
	for id := -1; id <= 16; id++ {
		if sp, is := s.Space(id); is || sp != (api.Space{}) {
			t.Error(id, sp)
		}
		wantGet(t, s, id, 0, 0, false)
	}
	if s.Refs(0) != 0 || s.Bad(0) || s.Worn(0) != 0 {
		t.Error("something of place 0, or block 0")
	}
}

func TestMake(t *testing.T) {
	s := made(t, mk(15, 1024), mk(1, 1))
	wantSpace(t, s, api.Space{ID: 15, Quota: 1024})
	wantSpace(t, s, api.Space{ID: 1, Quota: 1})
	wantCounts(t, s, 0, 0)
	if s.Apply(put(1, 0, 511)) != 0 || s.Apply(put(15, 1023, 0)) != 0 {
		t.Fatal("the last pages of the quotas")
	}
	wantGet(t, s, 1, 0, 511, true)
	wantGet(t, s, 15, 1023, 0, true)
	wantGet(t, s, 15, 0, 0, false)
}

func TestDrop(t *testing.T) {
	s := made(t, mk(1, 4), put(1, 0, 5), put(1, 1, 6), put(1, 2, 6), seal(1), double(1, 2), put(2, 3, 9), drop(1))
	if sp, is := s.Space(1); is || sp != (api.Space{}) {
		t.Error(sp)
	}
	wantGet(t, s, 1, 0, 0, false)
	wantCounts(t, s, 3, 4)
	if s.Refs(5) != 1 || s.Refs(6) != 2 || s.Refs(9) != 1 {
		t.Error("refs of what is left")
	}
	if s.Apply(drop(2)) != 0 {
		t.Fatal("drop 2")
	}
	wantCounts(t, s, 0, 0)
	if s.Refs(5) != 0 || s.Refs(6) != 0 || s.Refs(9) != 0 || len(s.Dump()) != 0 {
		t.Error("something is left")
	}
	if s.Apply(mk(1, 2)) != 0 {
		t.Fatal("made again")
	}
	wantSpace(t, s, api.Space{ID: 1, Quota: 2})
	wantGet(t, s, 1, 0, 0, false)
}

func TestDoubleGoesItsOwnWay(t *testing.T) {
	s := made(t, mk(1, 4), put(1, 0, 5), put(1, 3, 0), seal(1), double(1, 2))
	wantSpace(t, s, api.Space{ID: 1, Quota: 4, Pages: 2, Sealed: true})
	wantSpace(t, s, api.Space{ID: 2, Quota: 4, Pages: 2})
	wantGet(t, s, 2, 0, 5, true)
	wantGet(t, s, 2, 3, 0, true)
	wantCounts(t, s, 2, 4)
	if s.Refs(5) != 2 || s.Refs(0) != 2 {
		t.Error(s.Refs(5), s.Refs(0))
	}
	if s.Apply(put(2, 0, 7)) != 0 || s.Apply(trim(1, 3)) != 0 || s.Apply(put(2, 1, 7)) != 0 {
		t.Fatal("changes")
	}
	wantGet(t, s, 1, 0, 5, true)
	wantGet(t, s, 2, 0, 7, true)
	wantGet(t, s, 2, 3, 0, true)
	wantGet(t, s, 1, 1, 0, false)
	wantCounts(t, s, 3, 4)
	if s.Refs(5) != 1 || s.Refs(0) != 1 || s.Refs(7) != 2 {
		t.Error(s.Refs(5), s.Refs(0), s.Refs(7))
	}
}

func TestSeal(t *testing.T) {
	s := made(t, mk(3, 2), mk(4, 2), seal(3), seal(3))
	wantSpace(t, s, api.Space{ID: 3, Quota: 2, Sealed: true})
	wantSpace(t, s, api.Space{ID: 4, Quota: 2})
	if s.Apply(put(3, 1, 4)) != 0 || s.Apply(trim(3, 1)) != 0 {
		t.Error("the chapter tells no error of a sealed space")
	}
}

func TestPut(t *testing.T) {
	s := made(t, mk(1, 2), put(1, 0, 5), put(1, 0, 5))
	wantCounts(t, s, 1, 1)
	if s.Refs(5) != 1 {
		t.Error("put there twice:", s.Refs(5))
	}
	s = made(t, mk(1, 2), put(1, 0, 5), put(1, 1, 5), put(1, 0, 0))
	wantGet(t, s, 1, 0, 0, true)
	wantGet(t, s, 1, 1, 5, true)
	wantCounts(t, s, 2, 2)
	if s.Refs(5) != 1 || s.Refs(0) != 1 {
		t.Error(s.Refs(5), s.Refs(0))
	}
}

func TestTrim(t *testing.T) {
	s := made(t, mk(1, 2), put(1, 0, 5), put(1, 1, 5), trim(1, 0))
	wantGet(t, s, 1, 0, 0, false)
	wantGet(t, s, 1, 1, 5, true)
	wantSpace(t, s, api.Space{ID: 1, Quota: 2, Pages: 1})
	wantCounts(t, s, 1, 1)
	if s.Apply(trim(1, 1)) != 0 || s.Refs(5) != 0 {
		t.Error("the last one there")
	}
	wantCounts(t, s, 0, 0)
}

func TestMove(t *testing.T) {
	s := made(t, mk(1, 4), put(1, 0, 5), put(1, 2, 5), put(1, 3, 6), double(1, 2), mk(3, 1), put(3, 0, 5), move(5, 0))
	for _, id := range []int{1, 2} {
		wantGet(t, s, id, 0, 0, true)
		wantGet(t, s, id, 2, 0, true)
		wantGet(t, s, id, 3, 6, true)
	}
	wantGet(t, s, 3, 0, 0, true)
	wantCounts(t, s, 2, 7)
	if s.Refs(5) != 0 || s.Refs(0) != 5 || s.Refs(6) != 2 {
		t.Error(s.Refs(5), s.Refs(0), s.Refs(6))
	}
	if s.Apply(move(6, 5)) != 0 || s.Apply(move(0, 6)) != 0 {
		t.Error("places that are free again")
	}
	wantGet(t, s, 2, 3, 5, true)
	wantGet(t, s, 3, 0, 6, true)
}

func TestBadAndWorn(t *testing.T) {
	s := made(t, bad(0), bad(31), bad(0), worn(31, 7), worn(31, 7), worn(31, 6), worn(3, 1<<30), worn(4, 0), worn(5, 1), worn(5, 2))
	if s.Bads() != 2 || !s.Bad(0) || !s.Bad(31) || s.Bad(1) || s.Bad(-1) || s.Bad(32) {
		t.Error("bad")
	}
	for b, n := range map[int]int{31: 7, 3: 1073741824, 4: 0, 5: 2, 0: 0, 6: 0, -1: 0, 32: 0} {
		if s.Worn(b) != n {
			t.Error(b, s.Worn(b))
		}
	}
	want := []api.Record{bad(0), bad(31), worn(3, 1<<30), worn(4, 0), worn(5, 2), worn(31, 7)}
	if !slices.Equal(s.Dump(), want) {
		t.Error(s.Dump())
	}
}

// full is a state with something of each kind in it.
func full(t *testing.T) *State {
	t.Helper()
	return made(t, mk(1, 4), put(1, 0, 5), put(1, 3, 9), double(1, 2), seal(2), mk(15, 1024), put(15, 1023, 511),
		mk(3, 1), bad(2), worn(2, 8), worn(0, 0))
}

func TestErrorsChangeNothing(t *testing.T) {
	const less = math.MinInt
	wrong := []struct {
		r api.Record
		e api.Errno
	}{
		{mk(0, 1), 1}, {mk(16, 1), 1}, {mk(5, 0), 1}, {mk(5, 1025), 1}, {mk(-1, 1), 1}, {mk(1, 0), 1},
		{mk(1, 4), 80}, {mk(15, 1), 80}, {mk(2, 1024), 80},
		{drop(0), 1}, {drop(16), 1}, {drop(4), 80}, {drop(14), 80},
		{double(0, 4), 1}, {double(1, 0), 1}, {double(1, 16), 1}, {double(16, 4), 1}, {double(1, -1), 1},
		{double(4, 5), 80}, {double(4, 1), 80}, {double(1, 2), 80}, {double(1, 1), 80}, {double(4, 4), 80},
		{seal(0), 1}, {seal(16), 1}, {seal(4), 80},
		{put(0, 0, 0), 1}, {put(16, 0, 0), 1}, {put(1, -1, 0), 1}, {put(1, 1024, 0), 1}, {put(1, 0, -1), 1}, {put(1, 0, 512), 1},
		{put(4, 1024, 0), 1}, {put(4, 0, 512), 1}, {put(1, 4, 512), 1},
		{put(4, 0, 0), 80}, {put(4, 1023, 0), 80}, {put(1, 4, 0), 81}, {put(1, 1023, 511), 81}, {put(3, 1, 5), 81},
		{trim(0, 0), 1}, {trim(16, 0), 1}, {trim(1, -1), 1}, {trim(1, 1024), 1}, {trim(4, 1024), 1},
		{trim(4, 0), 80}, {trim(1, 1), 81}, {trim(1, 4), 81}, {trim(1, 1023), 81}, {trim(15, 0), 81}, {trim(3, 0), 81},
		{move(-1, 0), 1}, {move(512, 0), 1}, {move(5, -1), 1}, {move(5, 512), 1}, {move(less, less), 1},
		{move(0, 1), 82}, {move(0, 5), 82}, {move(5, 9), 82}, {move(5, 511), 82}, {move(5, 5), 82}, {move(0, 0), 82},
		{bad(-1), 1}, {bad(32), 1}, {worn(-1, 0), 1}, {worn(32, 0), 1}, {worn(3, -1), 1}, {worn(3, 1<<30+1), 1},
		{api.Record{}, 1}, {api.Record{Kind: 10}, 1}, {api.Record{Kind: -1}, 1}, {api.Record{Kind: 10, Space: 1}, 1},
		{api.Record{Kind: 5, Space: 1, N: 1}, 1}, {api.Record{Kind: 7, Space: 1, At: 1}, 1}, {api.Record{Kind: 8, At: 3, N: 1}, 1},
		{api.Record{Kind: 1, Space: 1, N: 1}, 1}, {api.Record{Kind: 2, Space: 1, At: 5}, 1}, {api.Record{Kind: 3, Space: 1, At: 5}, 1},
		{api.Record{Kind: 4, Space: 4, N: 1, Page: 1}, 1}, {api.Record{Kind: 6, Space: 1, To: 4, N: 4}, 1}, {api.Record{Kind: 9, At: 3, To: 1}, 1},
		{worn(2, 7), 0}, {worn(2, 0), 0}, {worn(2, 8), 0}, {bad(2), 0}, {seal(2), 0}, {put(1, 0, 5), 0},
	}
	s := full(t)
	before := tell(s)
	for _, w := range wrong {
		if e := s.Apply(w.r); e != w.e {
			t.Errorf("%+v: %d, want %d", w.r, e, w.e)
		}
		if !same(tell(s), before) {
			t.Fatalf("%+v changed something", w.r)
		}
	}
}

func TestLay(t *testing.T) {
	s := full(t)
	before := tell(s)
	wrong := []struct {
		id, page, at int
		e            api.Errno
	}{
		{1, 0, -1, 1}, {1, 0, math.MinInt, 1}, {4, 0, -1, 1}, {1, 4, -1, 1}, {0, 0, 0, 1}, {16, 0, 0, 1}, {-1, 0, 0, 1},
		{1, -1, 0, 1}, {1, 1024, 0, 1}, {4, 1024, 0, 1}, {15, 1024, 0, 1},
		{4, 0, 0, 80}, {4, 1023, 512, 80}, {1, 4, 0, 81}, {3, 1, math.MaxInt, 81},
	}
	for _, w := range wrong {
		if e := s.Lay(w.id, w.page, w.at); e != w.e {
			t.Errorf("%+v: %d", w, e)
		}
		if !same(tell(s), before) {
			t.Fatalf("%+v changed something", w)
		}
	}
	for _, at := range []int{0, 5, 511, 512, 513, 1 << 40, math.MaxInt} {
		if e := s.Lay(1, 3, at); e != 0 {
			t.Fatal(at, e)
		}
		wantGet(t, s, 1, 3, at, true)
	}
	if s.Refs(math.MaxInt) != 1 || s.Refs(512) != 0 || s.Refs(9) != 1 || s.Refs(5) != 2 {
		t.Error("refs")
	}
	if s.Lay(1, 0, math.MaxInt) != 0 || s.Refs(math.MaxInt) != 2 || s.Refs(5) != 1 {
		t.Error("two at one place")
	}
	wantSpace(t, s, api.Space{ID: 1, Quota: 4, Pages: 2})
	wantCounts(t, s, 4, 5)
	if d := s.Dump(); d[1] != put(1, 0, math.MaxInt) || d[2] != put(1, 3, math.MaxInt) {
		t.Error("a place beyond what a record may tell is told as it is:", d[1], d[2])
	}
	if s.Apply(put(1, 0, 7)) != 0 || s.Apply(trim(1, 3)) != 0 || s.Refs(math.MaxInt) != 0 {
		t.Error("off it again")
	}
}

func TestCopyGoesItsOwnWay(t *testing.T) {
	changes := []api.Record{put(1, 0, 100), put(1, 1, 5), put(15, 0, 3), trim(1, 3), move(5, 6), move(511, 7), mk(4, 2),
		drop(1), drop(2), double(1, 4), seal(1), seal(15), bad(3), worn(2, 9), worn(7, 0)}
	for _, r := range changes {
		a := full(t)
		b := a.Copy()
		before := tell(a)
		if !same(tell(b), before) {
			t.Fatal("not the same")
		}
		if a.Apply(r) != 0 || same(tell(a), before) || !same(tell(b), before) {
			t.Errorf("%+v of the first", r)
		}
		a = full(t)
		b = a.Copy()
		if b.Apply(r) != 0 || same(tell(b), before) || !same(tell(a), before) {
			t.Errorf("%+v of the copy", r)
		}
	}
	a := full(t)
	b := a.Copy()
	if b.Lay(1, 0, 1000) != 0 || a.Lay(2, 0, 2000) != 0 {
		t.Fatal("lay")
	}
	wantGet(t, a, 1, 0, 5, true)
	wantGet(t, b, 2, 0, 5, true)
	if a.Refs(1000) != 0 || b.Refs(2000) != 0 {
		t.Error("refs of the other one")
	}
}

func TestDumpMakesTheSame(t *testing.T) {
	s := made(t, worn(9, 3), bad(30), mk(11, 1024), put(11, 700, 4), put(11, 70, 4), put(11, 7, 8), seal(11), mk(2, 3),
		put(2, 2, 4), put(2, 0, 10), double(2, 10), bad(4), worn(1, 0), move(4, 511), drop(2), mk(2, 5), seal(2))
	want := []api.Record{
		mk(2, 5), seal(2),
		mk(10, 3), put(10, 0, 10), put(10, 2, 511),
		mk(11, 1024), put(11, 7, 8), put(11, 70, 511), put(11, 700, 511), seal(11),
		bad(4), bad(30),
		worn(1, 0), worn(9, 3),
	}
	for range 20 {
		if !slices.Equal(s.Dump(), want) {
			t.Fatal(s.Dump())
		}
	}
	if !same(tell(made(t, s.Dump()...)), tell(s)) {
		t.Error("another one")
	}
}

func TestSpacesByTheirNumbers(t *testing.T) {
	s := made(t, mk(15, 7), mk(2, 3), mk(9, 4), put(9, 1, 1), put(9, 3, 1), seal(9), mk(1, 1), double(9, 8), drop(2))
	want := []api.Space{{ID: 1, Quota: 1}, {ID: 8, Quota: 4, Pages: 2}, {ID: 9, Quota: 4, Pages: 2, Sealed: true}, {ID: 15, Quota: 7}}
	for range 20 {
		if !slices.Equal(s.Spaces(), want) {
			t.Fatal(s.Spaces())
		}
	}
}

func TestAnswersAreTheCallers(t *testing.T) {
	s := full(t)
	before := tell(s)
	l, d := s.Spaces(), s.Dump()
	for i := range l {
		l[i] = api.Space{}
	}
	for i := range d {
		d[i] = api.Record{}
	}
	if !same(tell(s), before) {
		t.Error("a list that was told is the state's own")
	}
}

func TestNil(t *testing.T) {
	var s *State
	for _, r := range []api.Record{mk(1, 1), put(1, 0, 0), trim(1, 0), move(1, 2), drop(1), double(1, 2), seal(1), bad(1), worn(1, 1), {}} {
		if e := s.Apply(r); e != 1 {
			t.Errorf("%+v: %d", r, e)
		}
	}
	if s.Lay(1, 0, 0) != 1 || s.Lay(1, 0, -1) != 1 {
		t.Error("lay")
	}
	if s.Copy() != nil || s.Spaces() != nil || s.Dump() != nil || s.Refs(0) != 0 || s.Live() != 0 || s.Keys() != 0 ||
		s.Bad(0) || s.Bads() != 0 || s.Worn(0) != 0 {
		t.Error("something is told")
	}
	wantGet(t, s, 1, 0, 0, false)
	if sp, is := s.Space(1); is || sp != (api.Space{}) {
		t.Error(sp)
	}
}

// A state that New did not make is one without anything.
func TestZero(t *testing.T) {
	l := []api.Record{mk(1, 2), put(1, 1, 3), bad(1), worn(1, 1)}
	want := tell(made(t, l...))
	s := new(State)
	c := s.Copy()
	if !same(tell(s), tell(New())) || !same(tell(c), tell(New())) {
		t.Error("something is there")
	}
	for _, r := range l {
		if s.Apply(r) != 0 || c.Apply(r) != 0 {
			t.Errorf("%+v", r)
		}
	}
	if !same(tell(s), want) || !same(tell(c), want) {
		t.Error("another one")
	}
	for _, r := range []api.Record{bad(3), worn(3, 1)} {
		if new(State).Apply(r) != 0 {
			t.Errorf("%+v", r)
		}
	}
	if new(State).Lay(1, 0, 0) != 80 || new(State).Apply(move(1, 2)) != 82 {
		t.Error("errors")
	}
}

func TestExample(t *testing.T) {
	s := made(t, mk(1, 4), put(1, 0, 5), double(1, 2))
	if s.Refs(5) != 2 {
		t.Error(s.Refs(5))
	}
}

// anyRecord is a record of few numbers, so that many apply and many don't.
func anyRecord(rnd *rand.Rand) api.Record {
	id, to := rnd.Intn(5)+1, rnd.Intn(5)+1
	page, at := rnd.Intn(9), rnd.Intn(14)
	r := []api.Record{put(id, page, at), put(id, page, at), put(id, page, at), trim(id, page), move(at, rnd.Intn(14)), move(at, rnd.Intn(14)),
		mk(id, rnd.Intn(9)+1), mk(id, rnd.Intn(9)+1), drop(id), double(id, to), seal(id), bad(rnd.Intn(32)), worn(rnd.Intn(32), rnd.Intn(6))}[rnd.Intn(13)]
	if rnd.Intn(20) == 0 {
		off := []int{-1, 16, 32, 512, 1024, 1025, math.MinInt, math.MaxInt}[rnd.Intn(8)]
		*[]*int{&r.Kind, &r.Space, &r.Page, &r.At, &r.To, &r.N}[rnd.Intn(6)] = off
	}
	return r
}

// against holds a state against a plain one.
func against(t *testing.T, s *State, p *plain) {
	t.Helper()
	if !slices.Equal(s.Spaces(), p.all()) || !slices.Equal(s.Dump(), p.dump()) {
		t.Fatalf("%+v\n%+v", s.Dump(), p.dump())
	}
	if s.Live() != p.live() || s.Keys() != len(p.pages) || s.Bads() != len(p.bad) {
		t.Fatal(s.Live(), s.Keys(), s.Bads())
	}
	for at := -1; at < 16; at++ {
		if s.Refs(at) != p.refs(at) {
			t.Fatal(at, s.Refs(at), p.refs(at))
		}
	}
	for id := range 7 {
		for page := -1; page < 10; page++ {
			at, is := s.Get(id, page)
			i := p.find(id, page)
			if is != (i >= 0) || is && at != p.pages[i].at || !is && at != 0 {
				t.Fatal(id, page, at, is)
			}
		}
	}
}

func TestRunsBesideAPlainOne(t *testing.T) {
	rnd := rand.New(rand.NewSource(8))
	for range 200 {
		s, p := New(), &plain{}
		seen := map[api.Errno]int{}
		for range 120 {
			var e, want api.Errno
			var r api.Record
			if rnd.Intn(8) == 0 {
				id, page, at := rnd.Intn(7), rnd.Intn(11)-1, rnd.Intn(16)-1
				e, want = s.Lay(id, page, at), p.lay(id, page, at)
			} else {
				r = anyRecord(rnd)
				e, want = s.Apply(r), p.apply(r)
			}
			if e != want {
				t.Fatalf("%+v: %d, want %d", r, e, want)
			}
			seen[e]++
			against(t, s, p)
		}
		if len(seen) < 4 {
			t.Error("runs in which too little happens", seen)
		}
		against(t, made(t, s.Dump()...), p)
		against(t, s.Copy(), p)
	}
}
