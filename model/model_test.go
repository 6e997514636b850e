package model

import (
	"math"
	"slices"
	"strings"
	"testing"

	"tinderbox/api"
)

// wide is room that no test here fills.
var wide = api.Room{Places: 1000, Keys: 1000}

func trim(id, page int) api.Record { return api.Record{Kind: api.RecTrim, Space: id, Page: page} }
func mk(id, n int) api.Record      { return api.Record{Kind: api.RecMake, Space: id, N: n} }
func drop(id int) api.Record       { return api.Record{Kind: api.RecDrop, Space: id} }
func double(id, to int) api.Record { return api.Record{Kind: api.RecCopy, Space: id, To: to} }
func seal(id int) api.Record       { return api.Record{Kind: api.RecSeal, Space: id} }

// must fails, if an error is another one.
func must(t *testing.T, what string, got, want api.Errno) {
	t.Helper()
	if got != want {
		t.Errorf("%s: %d, not %d", what, got, want)
	}
}

// filled is one with space 1 (4 pages, 0 says zero, 1 says one), space 2 (a copy of it, sealed), and space 3 (2 pages, none there). A transaction is open.
func filled(t *testing.T, room api.Room, size int) *Model {
	t.Helper()
	m := New(room, size)
	must(t, "begin", m.Begin(), api.OK)
	must(t, "make", m.Do(mk(1, 4)), api.OK)
	must(t, "put", m.Put(1, 0, "zero"), api.OK)
	must(t, "put", m.Put(1, 1, "one"), api.OK)
	must(t, "copy", m.Do(double(1, 2)), api.OK)
	must(t, "seal", m.Do(seal(2)), api.OK)
	must(t, "make", m.Do(mk(3, 2)), api.OK)
	must(t, "commit", m.Commit(), api.OK)
	must(t, "begin", m.Begin(), api.OK)
	return m
}

// standing is what filled has.
var standing = look{
	spaces: []api.Space{{ID: 1, Quota: 4, Pages: 2}, {ID: 2, Quota: 4, Pages: 2, Sealed: true}, {ID: 3, Quota: 2}},
	leaves: []api.Leaf{{Space: 1, Page: 0, Text: "zero"}, {Space: 1, Page: 1, Text: "one"}, {Space: 2, Page: 0, Text: "zero"}, {Space: 2, Page: 1, Text: "one"}},
}

// look is all that a plain device shows.
type look struct {
	spaces []api.Space
	leaves []api.Leaf
}

func lookAt(m *Model) look { return look{m.Spaces(), m.Leaves()} }

func (l look) equals(o look) bool {
	return slices.Equal(l.spaces, o.spaces) && slices.Equal(l.leaves, o.leaves)
}

// shows fails, if another thing is to be seen.
func shows(t *testing.T, what string, m *Model, want look) {
	t.Helper()
	if got := lookAt(m); !got.equals(want) {
		t.Errorf("%s: %+v, not %+v", what, got, want)
	}
	for _, l := range want.leaves {
		if s, e := m.Get(l.Space, l.Page); s != l.Text || e != api.OK {
			t.Errorf("%s: page %d of %d: %q, %d", what, l.Page, l.Space, s, e)
		}
	}
}

// many makes changes until no more may be made, that all let be what is there.
func many(t *testing.T, m *Model) {
	t.Helper()
	for range 8 {
		must(t, "seal", m.Do(seal(2)), api.OK)
	}
}

func TestNew(t *testing.T) {
	for _, m := range []*Model{New(wide, 64), New(api.Room{}, 0), New(api.Room{Places: -1, Keys: -1}, -1), New(api.Room{Places: math.MinInt, Keys: math.MaxInt}, math.MinInt)} {
		shows(t, "a new one", m, look{})
		must(t, "put", m.Put(1, 0, ""), api.ErrOpen)
		must(t, "commit", m.Commit(), api.ErrOpen)
		must(t, "begin", m.Begin(), api.OK)
		shows(t, "a new one, begun", m, look{})
		must(t, "commit of nothing", m.Commit(), api.OK)
		shows(t, "a new one, committed", m, look{})
	}
}

// TestSize: pages have as many bytes as New was told, or fewer.
func TestSize(t *testing.T) {
	for _, size := range []int{0, 1, 3, 64, 256} {
		m := New(wide, size)
		must(t, "begin", m.Begin(), api.OK)
		must(t, "make", m.Do(mk(1, 2)), api.OK)
		must(t, "put of as many", m.Put(1, 0, strings.Repeat("\xff", size)), api.OK)
		must(t, "put of one more", m.Put(1, 1, strings.Repeat("\xff", size+1)), api.ErrLong)
		must(t, "put of nothing", m.Put(1, 1, ""), api.OK)
	}
	m := New(wide, 3)
	must(t, "begin", m.Begin(), api.OK)
	must(t, "make", m.Do(mk(1, 1)), api.OK)
	must(t, "put of two runes of two bytes", m.Put(1, 0, "\u0434\u0434"), api.ErrLong)
	m = New(wide, -1)
	must(t, "begin", m.Begin(), api.OK)
	must(t, "put of nothing", m.Put(1, 0, ""), api.ErrLong)
}

func TestOneTransactionAtATime(t *testing.T) {
	m := New(wide, 64)
	for _, end := range []func() api.Errno{m.Commit, m.Abort, m.Commit} {
		must(t, "begin", m.Begin(), api.OK)
		must(t, "make", m.Do(mk(9, 1)), api.OK)
		must(t, "put", m.Put(9, 0, "x"), api.OK)
		open := lookAt(m)
		must(t, "begin again", m.Begin(), api.ErrOpen)
		shows(t, "behind a Begin that is refused", m, open)
		must(t, "drop", m.Do(drop(9)), api.OK)
		must(t, "end", end(), api.OK)
		must(t, "commit of none", m.Commit(), api.ErrOpen)
		must(t, "abort of none", m.Abort(), api.ErrOpen)
	}
}

// TestEachHasChangesOfItsOwn: how many changes were made is counted from each Begin on, and what is refused is none.
func TestEachHasChangesOfItsOwn(t *testing.T) {
	m := filled(t, wide, 64)
	for _, end := range []func() api.Errno{m.Commit, m.Abort, m.Commit} {
		for n := range 8 {
			must(t, "put of no page", m.Put(1, 4, ""), api.ErrPage)
			must(t, "drop of none", m.Do(drop(9)), api.ErrSpace)
			must(t, "begin", m.Begin(), api.ErrOpen)
			if n%2 == 0 {
				must(t, "put", m.Put(1, 3, "x"), api.OK)
			} else {
				must(t, "trim", m.Do(trim(1, 3)), api.OK)
			}
		}
		must(t, "a ninth put", m.Put(1, 3, "x"), api.ErrMany)
		must(t, "a ninth record", m.Do(seal(2)), api.ErrMany)
		must(t, "end", end(), api.OK)
		must(t, "begin", m.Begin(), api.OK)
	}
	shows(t, "behind all", m, standing)
}

// TestNoneIsOpen: whatever is handed in, that none is open is told first.
func TestNoneIsOpen(t *testing.T) {
	m := filled(t, wide, 64)
	must(t, "commit", m.Commit(), api.OK)
	for range 2 {
		must(t, "put", m.Put(1, 0, "x"), api.ErrOpen)
		must(t, "put of what is too long", m.Put(1, 0, strings.Repeat("x", 65)), api.ErrOpen)
		must(t, "put into no space", m.Put(-1, -1, ""), api.ErrOpen)
		must(t, "put into a sealed one", m.Put(2, 0, ""), api.ErrOpen)
		must(t, "do", m.Do(mk(4, 1)), api.ErrOpen)
		must(t, "do of nothing", m.Do(api.Record{}), api.ErrOpen)
		must(t, "do of what is refused", m.Do(drop(9)), api.ErrOpen)
		must(t, "commit", m.Commit(), api.ErrOpen)
		must(t, "abort", m.Abort(), api.ErrOpen)
		shows(t, "without a transaction", m, standing)
		must(t, "begin", m.Begin(), api.OK)
		must(t, "abort", m.Abort(), api.OK)
	}
}

// TestPutRefuses: each error, and those that are told first where several apply; nothing is changed then.
func TestPutRefuses(t *testing.T) {
	long := strings.Repeat("x", 65)
	type put struct {
		what     string
		id, page int
		text     string
		want     api.Errno
	}
	ask := func(m *Model, l []put) {
		t.Helper()
		before := lookAt(m)
		for _, p := range l {
			must(t, p.what, m.Put(p.id, p.page, p.text), p.want)
			shows(t, p.what, m, before)
		}
	}
	of := []put{
		{"long", 1, 0, long, api.ErrLong},
		{"long, no space", 9, 0, long, api.ErrLong},
		{"long, sealed", 2, 0, long, api.ErrLong},
		{"long, no page", 1, 4, long, api.ErrLong},
		{"no space", 9, 0, "", api.ErrSpace},
		{"no space, no page", 9, -1, "", api.ErrSpace},
		{"no number of one", 0, 0, "", api.ErrSpace},
		{"no number of one", -1, 0, "", api.ErrSpace},
		{"no number of one", 16, 0, "", api.ErrSpace},
		{"no number of one", math.MinInt, 0, "", api.ErrSpace},
		{"sealed", 2, 0, "", api.ErrSealed},
		{"sealed, no page", 2, 4, "", api.ErrSealed},
	}
	m := filled(t, wide, 64)
	ask(m, append(of,
		put{"no page", 1, 4, "", api.ErrPage},
		put{"no page", 1, -1, "", api.ErrPage},
		put{"no page", 1, 1024, "", api.ErrPage},
		put{"no page", 1, math.MaxInt, "", api.ErrPage},
		put{"no page", 1, math.MinInt, "", api.ErrPage},
		put{"no page", 3, 2, "", api.ErrPage},
	))
	many(t, m)
	ask(m, append(of,
		put{"a ninth", 1, 0, "", api.ErrMany},
		put{"a ninth, no page", 1, 4, "", api.ErrMany},
	))
	m = filled(t, api.Room{Places: 2, Keys: 4}, 64)
	ask(m, append(of,
		put{"no page, no room", 1, 4, "", api.ErrPage},
		put{"no room", 1, 2, "", api.ErrRoom},
		put{"no room", 3, 0, "", api.ErrRoom},
		put{"no room, for what a copy has stands there yet", 1, 0, "", api.ErrRoom},
	))
	many(t, m)
	ask(m, append(of, put{"a ninth, no room", 1, 2, "", api.ErrMany}))
}

// TestDoRefuses: as TestPutRefuses.
func TestDoRefuses(t *testing.T) {
	type do struct {
		what string
		r    api.Record
		want api.Errno
	}
	ask := func(m *Model, l []do) {
		t.Helper()
		before := lookAt(m)
		for _, d := range l {
			must(t, d.what, m.Do(d.r), d.want)
			shows(t, d.what, m, before)
		}
	}
	of := []do{
		{"trim of no space", trim(9, 0), api.ErrSpace},
		{"trim of a sealed one", trim(2, 0), api.ErrSealed},
		{"trim of no page of a sealed one", trim(2, 3), api.ErrSealed},
	}
	for _, r := range mayNotBe() {
		of = append(of, do{"what may not be", r, api.ErrInput})
	}
	m := filled(t, wide, 64)
	ask(m, append(of,
		do{"trim of no page", trim(1, 2), api.ErrPage},
		do{"trim beyond the quota", trim(1, 1023), api.ErrPage},
		do{"make of one that is there", mk(1, 1), api.ErrSpace},
		do{"make of one that is sealed", mk(2, 1), api.ErrSpace},
		do{"drop of none", drop(9), api.ErrSpace},
		do{"copy of none", double(9, 10), api.ErrSpace},
		do{"copy of none to one", double(9, 1), api.ErrSpace},
		do{"copy to one", double(1, 3), api.ErrSpace},
		do{"copy to itself", double(1, 1), api.ErrSpace},
		do{"seal of none", seal(9), api.ErrSpace},
	))
	many(t, m)
	ask(m, append(of,
		do{"a ninth", seal(1), api.ErrMany},
		do{"a ninth, trim of no page", trim(1, 2), api.ErrMany},
		do{"a ninth, make of one that is there", mk(1, 1), api.ErrMany},
		do{"a ninth, drop of none", drop(9), api.ErrMany},
	))
	m = filled(t, api.Room{Places: 2, Keys: 5}, 64)
	ask(m, append(of,
		do{"copy to one, no room", double(1, 2), api.ErrSpace},
		do{"copy, no room", double(1, 4), api.ErrRoom},
		do{"copy of a sealed one, no room", double(2, 4), api.ErrRoom},
	))
	many(t, m)
	ask(m, append(of, do{"a ninth, no room", double(1, 4), api.ErrMany}))
}

// mayNotBe is records that no transaction does: of other kinds, and with numbers beyond their limits, or that their kind does not have.
func mayNotBe() []api.Record {
	l := []api.Record{
		{}, {Kind: api.RecPut, Space: 1}, {Kind: api.RecMove, To: 1}, {Kind: api.RecBad}, {Kind: api.RecWorn, N: 1},
		{Kind: 10, Space: 1}, {Kind: -1, Space: 1}, {Kind: math.MaxInt},
		mk(4, 0), mk(4, 1025), mk(4, -1), trim(1, 1024), trim(1, -1), double(1, 0), double(1, 16),
	}
	for _, id := range []int{0, -1, 16, math.MinInt} {
		l = append(l, trim(id, 0), mk(id, 1), drop(id), double(id, 4), seal(id))
	}
	for _, r := range []api.Record{trim(1, 0), mk(4, 1), drop(1), double(1, 4), seal(1)} {
		page, at, to, n := r, r, r, r
		page.Page, at.At, to.To, n.N = 1, 1, 1, 1
		l = append(l, at)
		if r.Kind != api.RecTrim {
			l = append(l, page)
		}
		if r.Kind != api.RecCopy {
			l = append(l, to)
		}
		if r.Kind != api.RecMake {
			l = append(l, n)
		}
	}
	return l
}

// TestChanges: what each change does.
func TestChanges(t *testing.T) {
	space := func(id, quota, pages int, sealed bool) api.Space {
		return api.Space{ID: id, Quota: quota, Pages: pages, Sealed: sealed}
	}
	one, two, three := standing.spaces[0], standing.spaces[1], standing.spaces[2]
	zero1, one1, zero2, one2 := standing.leaves[0], standing.leaves[1], standing.leaves[2], standing.leaves[3]
	put := func(id, page int, text string) func(*Model) api.Errno {
		return func(m *Model) api.Errno { return m.Put(id, page, text) }
	}
	do := func(r api.Record) func(*Model) api.Errno {
		return func(m *Model) api.Errno { return m.Do(r) }
	}
	for what, x := range map[string]struct {
		do   func(*Model) api.Errno
		want look
	}{
		"a new page": {put(1, 3, "x"), look{
			[]api.Space{space(1, 4, 3, false), two, three}, []api.Leaf{zero1, one1, {Space: 1, Page: 3, Text: "x"}, zero2, one2}}},
		"a page that is there": {put(1, 0, "x"), look{
			standing.spaces, []api.Leaf{{Space: 1, Page: 0, Text: "x"}, one1, zero2, one2}}},
		"a page that says nothing": {put(3, 1, ""), look{
			[]api.Space{one, two, space(3, 2, 1, false)}, []api.Leaf{zero1, one1, zero2, one2, {Space: 3, Page: 1}}}},
		"trim": {do(trim(1, 0)), look{
			[]api.Space{space(1, 4, 1, false), two, three}, []api.Leaf{one1, zero2, one2}}},
		"make": {do(mk(15, 1024)), look{
			[]api.Space{one, two, three, space(15, 1024, 0, false)}, standing.leaves}},
		"drop":           {do(drop(1)), look{[]api.Space{two, three}, []api.Leaf{zero2, one2}}},
		"drop of sealed": {do(drop(2)), look{[]api.Space{one, three}, []api.Leaf{zero1, one1}}},
		"copy": {do(double(1, 4)), look{
			[]api.Space{one, two, three, space(4, 4, 2, false)},
			append(slices.Clone(standing.leaves), api.Leaf{Space: 4, Page: 0, Text: "zero"}, api.Leaf{Space: 4, Page: 1, Text: "one"})}},
		"copy of sealed": {do(double(2, 4)), look{
			[]api.Space{one, two, three, space(4, 4, 2, false)},
			append(slices.Clone(standing.leaves), api.Leaf{Space: 4, Page: 0, Text: "zero"}, api.Leaf{Space: 4, Page: 1, Text: "one"})}},
		"copy of nothing": {do(double(3, 4)), look{[]api.Space{one, two, three, space(4, 2, 0, false)}, standing.leaves}},
		"seal":            {do(seal(1)), look{[]api.Space{space(1, 4, 2, true), two, three}, standing.leaves}},
		"seal of sealed":  {do(seal(2)), standing},
	} {
		m := filled(t, wide, 64)
		must(t, what, x.do(m), api.OK)
		shows(t, what, m, x.want)
		must(t, "abort", m.Abort(), api.OK)
		shows(t, what+", aborted", m, standing)
		must(t, "begin", m.Begin(), api.OK)
		shows(t, what+", begun again", m, standing)
		must(t, what, x.do(m), api.OK)
		must(t, "commit", m.Commit(), api.OK)
		shows(t, what+", committed", m, x.want)
		must(t, "begin", m.Begin(), api.OK)
		must(t, "abort", m.Abort(), api.OK)
		shows(t, what+", committed for good", m, x.want)
	}
}

// TestAbort: the chapter's example.
func TestAbort(t *testing.T) {
	m := New(wide, 64)
	must(t, "begin", m.Begin(), api.OK)
	must(t, "make", m.Do(mk(1, 1)), api.OK)
	must(t, "commit", m.Commit(), api.OK)
	must(t, "begin", m.Begin(), api.OK)
	must(t, "put", m.Put(1, 0, "a"), api.OK)
	must(t, "abort", m.Abort(), api.OK)
	if s, e := m.Get(1, 0); s != "" || e != api.ErrNone {
		t.Error(s, e)
	}
}

func TestCopiesGoTheirOwnWays(t *testing.T) {
	m := filled(t, wide, 64)
	must(t, "copy", m.Do(double(2, 4)), api.OK)
	must(t, "put", m.Put(4, 0, "other"), api.OK)
	must(t, "trim", m.Do(trim(1, 0)), api.OK)
	must(t, "drop", m.Do(drop(1)), api.OK)
	must(t, "commit", m.Commit(), api.OK)
	shows(t, "spaces and copies", m, look{
		[]api.Space{standing.spaces[1], standing.spaces[2], {ID: 4, Quota: 4, Pages: 2}},
		[]api.Leaf{standing.leaves[2], standing.leaves[3], {Space: 4, Page: 0, Text: "other"}, {Space: 4, Page: 1, Text: "one"}},
	})
}

// TestPlaces: pages that a copy has, too, take one place, until nothing has them; each Put takes one of its own.
func TestPlaces(t *testing.T) {
	m := filled(t, api.Room{Places: 3, Keys: 100}, 64) // zero and one stand there
	must(t, "copy", m.Do(double(1, 4)), api.OK)
	must(t, "copy of a copy", m.Do(double(4, 5)), api.OK)
	must(t, "the last place", m.Put(4, 0, "zero"), api.OK)
	must(t, "a place too much, for what says the same", m.Put(4, 2, "zero"), api.ErrRoom)
	must(t, "a place too much", m.Put(5, 0, "zero"), api.ErrRoom)
	must(t, "in the place of what nothing else has", m.Put(4, 0, "x"), api.OK)
	must(t, "commit", m.Commit(), api.OK)

	// It takes no more places when it is committed, and in the next transaction.
	must(t, "begin", m.Begin(), api.OK)
	must(t, "copy", m.Do(double(4, 6)), api.OK)
	must(t, "a place too much", m.Put(6, 0, "x"), api.ErrRoom)
	must(t, "drop, where copies have it", m.Do(drop(4)), api.OK)
	must(t, "a place too much", m.Put(1, 3, ""), api.ErrRoom)
	must(t, "trim of the last one that has it", m.Do(trim(6, 0)), api.OK)
	must(t, "the place that is free", m.Put(6, 3, ""), api.OK)
	must(t, "drop of what others have", m.Do(drop(5)), api.OK)
	must(t, "a place too much", m.Put(1, 3, ""), api.ErrRoom)
	must(t, "drop of the last one", m.Do(drop(6)), api.OK)
	must(t, "the place that is free", m.Put(1, 3, ""), api.OK)
	must(t, "commit", m.Commit(), api.OK)

	// Nothing of what was aborted takes any.
	for range 3 {
		must(t, "begin", m.Begin(), api.OK)
		must(t, "trim", m.Do(trim(1, 3)), api.OK)
		must(t, "put", m.Put(1, 2, ""), api.OK)
		must(t, "a place too much", m.Put(1, 3, ""), api.ErrRoom)
		must(t, "abort", m.Abort(), api.OK)
	}
}

// TestPutsOfOtherTransactions: what is put in a transaction takes another place than what was put ahead of it, even where that one was aborted.
func TestPutsOfOtherTransactions(t *testing.T) {
	m := New(api.Room{Places: 2, Keys: 100}, 64)
	must(t, "begin", m.Begin(), api.OK)
	must(t, "make", m.Do(mk(1, 9)), api.OK)
	must(t, "put", m.Put(1, 0, "a"), api.OK)
	must(t, "commit", m.Commit(), api.OK)
	must(t, "begin", m.Begin(), api.OK)
	must(t, "put", m.Put(1, 1, "a"), api.OK)
	must(t, "abort", m.Abort(), api.OK)
	must(t, "begin", m.Begin(), api.OK)
	must(t, "put", m.Put(1, 1, "a"), api.OK)
	must(t, "commit", m.Commit(), api.OK)
	must(t, "begin", m.Begin(), api.OK)
	must(t, "a place too much", m.Put(1, 2, "a"), api.ErrRoom)
	must(t, "trim", m.Do(trim(1, 0)), api.OK)
	must(t, "the place that is free", m.Put(1, 2, "a"), api.OK)
	must(t, "a place too much", m.Put(1, 3, "a"), api.ErrRoom)
}

// TestKeys: pages of all spaces count, those of copies, too.
func TestKeys(t *testing.T) {
	m := filled(t, api.Room{Places: 100, Keys: 6}, 64) // four pages are there
	must(t, "copy", m.Do(double(1, 4)), api.OK)
	must(t, "a page too much", m.Put(3, 0, ""), api.ErrRoom)
	must(t, "a page that is there", m.Put(4, 0, ""), api.OK)
	must(t, "a copy without pages", m.Do(double(3, 5)), api.OK)
	must(t, "a copy too much", m.Do(double(4, 6)), api.ErrRoom)
	must(t, "trim", m.Do(trim(4, 0)), api.OK)
	must(t, "a copy of one page", m.Do(double(4, 6)), api.OK)
	must(t, "a copy too much", m.Do(double(4, 7)), api.ErrRoom)
	must(t, "a page too much", m.Put(4, 0, ""), api.ErrRoom)
	must(t, "drop", m.Do(drop(4)), api.OK)
	must(t, "the page that is free", m.Put(3, 0, ""), api.OK)
	must(t, "a page too much", m.Put(3, 1, ""), api.ErrRoom)
	must(t, "commit", m.Commit(), api.OK)
	must(t, "begin", m.Begin(), api.OK)
	must(t, "a page too much", m.Put(3, 1, ""), api.ErrRoom)
}

// TestNoRoomAtAll: where there is less room than nothing takes, each change is refused, behind all else.
func TestNoRoomAtAll(t *testing.T) {
	for _, room := range []api.Room{{Places: -1, Keys: 1}, {Places: 1, Keys: -1}} {
		m := New(room, 64)
		must(t, "begin", m.Begin(), api.OK)
		must(t, "make", m.Do(mk(1, 1)), api.ErrRoom)
		must(t, "drop of none", m.Do(drop(1)), api.ErrSpace)
		must(t, "put", m.Put(1, 0, ""), api.ErrSpace)
		shows(t, "no room", m, look{})
		must(t, "commit", m.Commit(), api.OK)
	}
	m := New(api.Room{}, 64)
	must(t, "begin", m.Begin(), api.OK)
	must(t, "make", m.Do(mk(1, 1)), api.OK)
	must(t, "put", m.Put(1, 0, ""), api.ErrRoom)
	must(t, "copy", m.Do(double(1, 2)), api.OK)
}

func TestGet(t *testing.T) {
	m := filled(t, wide, 64)
	in := func(id, page int, want string, e api.Errno) {
		t.Helper()
		if s, got := m.Get(id, page); s != want || got != e {
			t.Errorf("page %d of %d: %q, %d", page, id, s, got)
		}
	}
	ahead := func() {
		t.Helper()
		in(1, 0, "zero", api.OK)
		in(1, 1, "one", api.OK)
		in(2, 0, "zero", api.OK)
		for _, no := range [][2]int{{1, 2}, {1, 4}, {1, -1}, {1, 1024}, {3, 0}, {9, 0}, {0, 0}, {-1, 0}, {16, 0}, {math.MinInt, math.MaxInt}} {
			in(no[0], no[1], "", api.ErrNone)
		}
	}
	ahead()
	must(t, "put", m.Put(1, 2, "two"), api.OK)
	must(t, "put", m.Put(1, 0, ""), api.OK)
	must(t, "copy", m.Do(double(1, 4)), api.OK)
	must(t, "put", m.Put(1, 2, "three"), api.OK)
	must(t, "trim", m.Do(trim(1, 1)), api.OK)
	must(t, "drop", m.Do(drop(2)), api.OK)
	in(1, 0, "", api.OK) // a page that says nothing is there
	in(1, 1, "", api.ErrNone)
	in(1, 2, "three", api.OK)
	in(2, 0, "", api.ErrNone)
	in(4, 0, "", api.OK)
	in(4, 1, "one", api.OK)
	in(4, 2, "two", api.OK)
	must(t, "abort", m.Abort(), api.OK)
	ahead()
}

// TestInOrder: spaces by their numbers, leaves by space and page, whatever came first.
func TestInOrder(t *testing.T) {
	for range 20 { // maps are gone over in another order each time
		m := New(wide, 64)
		want := look{}
		must(t, "begin", m.Begin(), api.OK)
		for _, id := range []int{9, 15, 1, 3, 14, 2} {
			must(t, "make", m.Do(mk(id, 1024)), api.OK)
		}
		must(t, "commit", m.Commit(), api.OK)
		for _, page := range []int{1023, 2, 511, 0, 10, 9} {
			must(t, "begin", m.Begin(), api.OK)
			for _, id := range []int{9, 15, 1, 3, 14} {
				must(t, "put", m.Put(id, page, string(rune('a'+page%26))+string(rune('a'+id))), api.OK)
			}
			must(t, "commit", m.Commit(), api.OK)
		}
		for _, id := range []int{1, 2, 3, 9, 14, 15} {
			if want.spaces = append(want.spaces, api.Space{ID: id, Quota: 1024, Pages: 6}); id == 2 {
				want.spaces[1].Pages = 0
				continue
			}
			for _, page := range []int{0, 2, 9, 10, 511, 1023} {
				want.leaves = append(want.leaves, api.Leaf{Space: id, Page: page, Text: string(rune('a'+page%26)) + string(rune('a'+id))})
			}
		}
		shows(t, "in order", m, want)
	}
}

func TestAnswersAreTheCallersOwn(t *testing.T) {
	m := filled(t, wide, 64)
	for range 2 {
		spaces, leaves := m.Spaces(), m.Leaves()
		spaces[0].Quota, leaves[0].Text = 99, "other"
		_ = append(spaces[:1], api.Space{ID: 7})
		_ = append(leaves[:1], api.Leaf{Space: 7})
		shows(t, "behind what was done to answers", m, standing)
		must(t, "abort", m.Abort(), api.OK)
		m.Begin()
	}
	told := lookAt(m)
	must(t, "put", m.Put(1, 0, "other"), api.OK)
	must(t, "drop", m.Do(drop(2)), api.OK)
	must(t, "commit", m.Commit(), api.OK)
	if !told.equals(standing) {
		t.Error("what is done later changes an answer")
	}
}

// TestCopy: it has the same, and goes its own way, and so does what it was made of.
func TestCopy(t *testing.T) {
	for what, of := range map[string]func(*Model) (kept, changed *Model){
		"the copy is changed": func(m *Model) (*Model, *Model) { return m, m.Copy() },
		"the copy is kept":    func(m *Model) (*Model, *Model) { return m.Copy(), m },
	} {
		kept, changed := of(filled(t, wide, 64))
		shows(t, what, kept, standing)
		shows(t, what, changed, standing)
		must(t, "begin", kept.Begin(), api.ErrOpen)
		must(t, "put", changed.Put(1, 0, "other"), api.OK)
		must(t, "put", changed.Put(1, 3, "new"), api.OK)
		must(t, "trim", changed.Do(trim(1, 1)), api.OK)
		must(t, "drop", changed.Do(drop(2)), api.OK)
		must(t, "seal", changed.Do(seal(1)), api.OK)
		must(t, "make", changed.Do(mk(5, 5)), api.OK)
		shows(t, what+" in a transaction", kept, standing)
		must(t, "commit", changed.Commit(), api.OK)
		shows(t, what+" by a commit", kept, standing)
		must(t, "abort", kept.Abort(), api.OK)
		shows(t, what+" by a commit, abort", kept, standing)
		must(t, "begin", kept.Begin(), api.OK)
		must(t, "drop", kept.Do(drop(1)), api.OK)
		must(t, "commit", kept.Commit(), api.OK)
		shows(t, what+", then the other one", changed, look{
			[]api.Space{{ID: 1, Quota: 4, Pages: 2, Sealed: true}, {ID: 3, Quota: 2}, {ID: 5, Quota: 5}},
			[]api.Leaf{{Space: 1, Page: 0, Text: "other"}, {Space: 1, Page: 3, Text: "new"}},
		})
	}
}

// TestCopyWithoutATransaction: neither opens one by the other's Begin.
func TestCopyWithoutATransaction(t *testing.T) {
	m := filled(t, wide, 64)
	must(t, "abort", m.Abort(), api.OK)
	c := m.Copy()
	must(t, "commit of the copy", c.Commit(), api.ErrOpen)
	must(t, "begin of the copy", c.Begin(), api.OK)
	must(t, "put", c.Put(1, 0, "other"), api.OK)
	must(t, "commit", m.Commit(), api.ErrOpen)
	must(t, "commit of the copy", c.Commit(), api.OK)
	shows(t, "behind its copy's Commit", m, standing)
	must(t, "begin", m.Begin(), api.OK)
	must(t, "drop", m.Do(drop(1)), api.OK)
	must(t, "commit", m.Commit(), api.OK)
	if s, e := c.Get(1, 0); s != "other" || e != api.OK {
		t.Error(s, e)
	}
}

// TestCopyOfATransaction: what was changed, how often, and what stands ahead of it are there in the copy, as are room and size.
func TestCopyOfATransaction(t *testing.T) {
	m := filled(t, api.Room{Places: 3, Keys: 5}, 5)
	for range 7 {
		must(t, "put", m.Put(1, 0, "other"), api.OK)
	}
	open := lookAt(m)
	c, d := m.Copy(), m.Copy().Copy()
	shows(t, "the copy", c, open)
	must(t, "long", c.Put(1, 0, "longer"), api.ErrLong)
	must(t, "a place too much", c.Put(1, 2, ""), api.ErrRoom)
	must(t, "a page too much", c.Do(double(1, 4)), api.ErrRoom)
	must(t, "the eighth", c.Put(1, 0, ""), api.OK)
	must(t, "a ninth", c.Do(seal(2)), api.ErrMany)
	must(t, "the eighth of the other one", m.Do(trim(1, 0)), api.OK)
	must(t, "a ninth", m.Do(seal(2)), api.ErrMany)
	shows(t, "the copy's copy", d, open)
	must(t, "abort", c.Abort(), api.OK)
	shows(t, "the copy, aborted", c, standing)
	must(t, "commit", d.Commit(), api.OK)
	shows(t, "the copy's copy, committed", d, open)
}

// TestPlacesOfACopy: its pages take one place each, with what is put later, too.
func TestPlacesOfACopy(t *testing.T) {
	m := filled(t, api.Room{Places: 3, Keys: 100}, 64)
	c := m.Copy()
	for _, x := range []*Model{m, c, m.Copy()} {
		must(t, "copy", x.Do(double(1, 4)), api.OK)
		must(t, "the last place", x.Put(4, 0, "x"), api.OK)
		must(t, "a place too much", x.Put(4, 1, "x"), api.ErrRoom)
		must(t, "trim", x.Do(trim(4, 0)), api.OK)
		must(t, "drop", x.Do(drop(4)), api.OK)
	}
}

func TestNone(t *testing.T) {
	for name, m := range map[string]*Model{"nil": nil, "one that New did not make": {}} {
		for range 2 {
			must(t, name+" put", m.Put(1, 0, ""), api.ErrInput)
			must(t, name+" put of long", m.Put(-1, -1, strings.Repeat("x", 999)), api.ErrInput)
			must(t, name+" do", m.Do(mk(1, 1)), api.ErrInput)
			must(t, name+" do of nothing", m.Do(api.Record{}), api.ErrInput)
			must(t, name+" do of trim", m.Do(trim(1, 0)), api.ErrInput)
			must(t, name+" commit", m.Commit(), api.ErrInput)
			must(t, name+" abort", m.Abort(), api.ErrInput)
			if s, e := m.Get(1, 0); s != "" || e != api.ErrInput {
				t.Error(name, s, e)
			}
			if len(m.Spaces()) != 0 || len(m.Leaves()) != 0 || m.Copy() != nil {
				t.Error(name, "has something")
			}
			must(t, name+" begin", m.Begin(), api.ErrInput)
		}
	}
}
