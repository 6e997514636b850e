package dev

import (
	"maps"
	"math/rand"
	"slices"
	"testing"

	"tinderbox/api"
	"tinderbox/ftl"
	"tinderbox/nand"
)

// usual is a chip with room for 19 places and 38 pages, of which two blocks may turn bad.
var usual = api.Geometry{Blocks: 16, Pages: 8, Size: 64}

// spaces is what a plain device has: pages that a copy has, too, are one text at one address.
type spaces map[int]space

type space struct {
	quota  int
	sealed bool
	pages  map[int]*string
}

// own is the same, to be changed by itself.
func (s spaces) own() spaces {
	o := spaces{}
	for id, sp := range s {
		o[id] = space{sp.quota, sp.sealed, maps.Clone(sp.pages)}
	}
	return o
}

// all is all spaces, by their numbers.
func (s spaces) all() []api.Space {
	var l []api.Space
	for _, id := range slices.Sorted(maps.Keys(s)) {
		l = append(l, api.Space{ID: id, Quota: s[id].quota, Pages: len(s[id].pages), Sealed: s[id].sealed})
	}
	return l
}

// equals tells whether others have the same pages that say the same.
func (s spaces) equals(o spaces) bool {
	if !slices.Equal(s.all(), o.all()) {
		return false
	}
	for id, sp := range s {
		for page, text := range sp.pages {
			if other := o[id].pages[page]; other == nil || *other != *text {
				return false
			}
		}
	}
	return true
}

// fits tells whether there is room for that.
func (s spaces) fits(room api.Room) bool {
	places, keys := map[*string]int{}, 0
	for _, sp := range s {
		for _, text := range sp.pages {
			places[text]++
			keys++
		}
	}
	return len(places) <= room.Places && keys <= room.Keys
}

// plain is a device without a chip, as chapters 17 and 18 tell it: what a device on a chip is held against.
type plain struct {
	room  api.Room
	size  int
	stand spaces // what is committed
	open  spaces // what is there in the transaction; nil: none is open
	did   int    // changes of the transaction
}

func (p *plain) begin() api.Errno {
	if p.open != nil {
		return 180
	}
	p.open, p.did = p.stand.own(), 0
	return 0
}

func (p *plain) commit() api.Errno {
	if p.open == nil {
		return 180
	}
	p.stand, p.open = p.open, nil
	return 0
}

func (p *plain) abort() api.Errno {
	if p.open == nil {
		return 180
	}
	p.open = nil
	return 0
}

// view is what is there: in the transaction, if one is open.
func (p *plain) view() spaces {
	if p.open != nil {
		return p.open
	}
	return p.stand
}

func (p *plain) get(id, page int) (string, api.Errno) {
	if text := p.view()[id].pages[page]; text != nil {
		return *text, 0
	}
	return "", 181
}

// closed is why pages of a space may not be changed.
func (p *plain) closed(id int) api.Errno {
	switch sp, is := p.open[id]; {
	case !is:
		return 80
	case sp.sealed:
		return 170
	}
	return 0
}

func (p *plain) put(id, page int, text string) api.Errno {
	switch e := api.Errno(0); {
	case p.open == nil:
		return 180
	case len(text) > p.size:
		return 173
	default:
		if e = p.closed(id); e != 0 {
			return e
		}
	}
	switch {
	case p.did >= 8:
		return 171
	case page < 0 || page >= p.open[id].quota:
		return 81
	}
	return p.try(func(s spaces) api.Errno {
		s[id].pages[page] = &text
		return 0
	})
}

func (p *plain) do(r api.Record) api.Errno {
	if p.open == nil {
		return 180
	}
	if !may(r) {
		return 1
	}
	if e := p.closed(r.Space); r.Kind == 2 && e != 0 {
		return e
	}
	if p.did >= 8 {
		return 171
	}
	return p.try(func(s spaces) api.Errno { return s.apply(r) })
}

// try lets a change be, if it may be and there is room behind it.
func (p *plain) try(change func(spaces) api.Errno) api.Errno {
	after := p.open.own()
	if e := change(after); e != 0 {
		return e
	}
	if !after.fits(p.room) {
		return 172
	}
	p.open = after
	p.did++
	return 0
}

// may tells whether a record may be one of a transaction, with the numbers of chapter 7 written out.
func may(r api.Record) bool {
	in := func(n, least, most int) bool { return n >= least && n <= most }
	if !in(r.Space, 1, 15) || r.At != 0 {
		return false
	}
	switch r.Kind {
	case 2:
		return in(r.Page, 0, 1023) && r.To == 0 && r.N == 0
	case 4:
		return in(r.N, 1, 1024) && r.Page == 0 && r.To == 0
	case 5, 7:
		return r.Page == 0 && r.To == 0 && r.N == 0
	case 6:
		return in(r.To, 1, 15) && r.Page == 0 && r.N == 0
	}
	return false
}

// apply does a record that may be one of a transaction.
func (s spaces) apply(r api.Record) api.Errno {
	sp, is := s[r.Space]
	if is == (r.Kind == 4) {
		return 80
	}
	switch r.Kind {
	case 2:
		if sp.pages[r.Page] == nil {
			return 81
		}
		delete(sp.pages, r.Page)
	case 4:
		s[r.Space] = space{r.N, false, map[int]*string{}}
	case 5:
		delete(s, r.Space)
	case 6:
		if _, is := s[r.To]; is {
			return 80
		}
		s[r.To] = space{sp.quota, false, maps.Clone(sp.pages)}
	case 7:
		s[r.Space] = space{sp.quota, true, sp.pages}
	}
	return 0
}

// bench is a device on a chip, beside a plain one to which the same is done: each answer of the one is held against that of the other one.
type bench struct {
	*Dev
	t     *testing.T
	r     *rand.Rand
	chip  *nand.Chip
	g     api.Geometry
	plain plain
	errs  map[api.Errno]int // how often each was told
}

func newBench(t *testing.T, g api.Geometry, bad ...int) *bench {
	t.Helper()
	c := newChip(t, g, api.Faults{Bad: bad})
	d, e := Format(c)
	if e != api.OK || d == nil {
		t.Fatal(g, e)
	}
	p := plain{room: ftl.RoomOf(g), size: g.Size, stand: spaces{}}
	return &bench{d, t, rand.New(rand.NewSource(int64(g.Blocks*g.Pages + g.Size))), c, g, p, map[api.Errno]int{}}
}

func newChip(t *testing.T, g api.Geometry, f api.Faults) *nand.Chip {
	t.Helper()
	c, e := nand.New(g, f)
	if e != api.OK {
		t.Fatal(g, e)
	}
	return c
}

// want asks that an answer is that of the plain device.
func (b *bench) want(what string, got, want api.Errno) api.Errno {
	b.t.Helper()
	b.errs[want]++
	if got != want {
		b.t.Fatal(b.g, what, got, "want", want)
	}
	return got
}

func (b *bench) wantBegin() api.Errno {
	b.t.Helper()
	return b.want("begin", b.Begin(), b.plain.begin())
}

func (b *bench) wantPut(id, page int, text string) api.Errno {
	b.t.Helper()
	return b.want("put", b.Put(id, page, text), b.plain.put(id, page, text))
}

func (b *bench) wantDo(r api.Record) api.Errno {
	b.t.Helper()
	return b.want("do", b.Do(r), b.plain.do(r))
}

func (b *bench) wantCommit() api.Errno {
	b.t.Helper()
	return b.want("commit", b.Commit(), b.plain.commit())
}

func (b *bench) wantAbort() api.Errno {
	b.t.Helper()
	return b.want("abort", b.Abort(), b.plain.abort())
}

func (b *bench) wantGet(id, page int) {
	b.t.Helper()
	s, e := b.Get(id, page)
	want, f := b.plain.get(id, page)
	b.want("get", e, f)
	if s != want {
		b.t.Fatal(b.g, "page", page, "of", id, "says", s, "want", want)
	}
}

// did is a transaction that is committed.
func (b *bench) did(l ...func() api.Errno) {
	b.t.Helper()
	for _, f := range append(append([]func() api.Errno{b.wantBegin}, l...), b.wantCommit) {
		if e := f(); e != api.OK {
			b.t.Fatal(b.g, e)
		}
	}
}

func (b *bench) puts(id, page int, text string) func() api.Errno {
	return func() api.Errno { return b.wantPut(id, page, text) }
}

func (b *bench) does(r api.Record) func() api.Errno {
	return func() api.Errno { return b.wantDo(r) }
}

// has is all that a device tells: in the transaction, if one is open.
func has(t *testing.T, d *Dev) spaces {
	t.Helper()
	s := spaces{}
	for _, x := range d.Spaces() {
		s[x.ID] = space{x.Quota, x.Sealed, map[int]*string{}}
		for page := range x.Quota {
			text, e := d.Get(x.ID, page)
			if e == api.OK {
				s[x.ID].pages[page] = &text
			} else if e != api.ErrNone || text != "" {
				t.Fatal("page", page, "of", x.ID, text, e)
			}
		}
		if len(s[x.ID].pages) != x.Pages {
			t.Fatal(x, "has", len(s[x.ID].pages))
		}
	}
	return s
}

// wantSame asks that the device has just what the plain one has.
func (b *bench) wantSame() {
	b.t.Helper()
	if b.Busy() != (b.plain.open != nil) {
		b.t.Fatal(b.g, "busy", b.Busy())
	}
	if !has(b.t, b.Dev).equals(b.plain.view()) {
		b.t.Fatal(b.g, "it has", b.Spaces(), "want", b.plain.view().all())
	}
}

// wantMount gives power until it is mounted: a transaction that was open is lost.
func (b *bench) wantMount() {
	b.t.Helper()
	for {
		b.chip.Power()
		d, e := Mount(b.chip)
		if e == api.OK && d != nil {
			b.Dev = d
			b.plain.open = nil
			return
		}
		if e != api.ErrOff || d != nil {
			b.t.Fatal(b.g, "mount", e)
		}
	}
}

// mustBe fails, if an error is another one.
func mustBe(t *testing.T, what string, got, want api.Errno) {
	t.Helper()
	if got != want {
		t.Errorf("%s: %d, want %d", what, got, want)
	}
}

func trim(id, page int) api.Record { return api.Record{Kind: api.RecTrim, Space: id, Page: page} }
func mk(id, n int) api.Record      { return api.Record{Kind: api.RecMake, Space: id, N: n} }
func drop(id int) api.Record       { return api.Record{Kind: api.RecDrop, Space: id} }
func double(id, to int) api.Record { return api.Record{Kind: api.RecCopy, Space: id, To: to} }
func seal(id int) api.Record       { return api.Record{Kind: api.RecSeal, Space: id} }
