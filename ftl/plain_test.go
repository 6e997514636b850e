package ftl

import (
	"maps"
	"math/rand"
	"testing"

	"tinderbox/api"
	"tinderbox/nand"
	"tinderbox/rec"
)

// plain is spaces of pages without a chip: what a device on one is held against. Pages that a copy has, too, are one text at one address.
type plain struct {
	room   api.Room
	size   int
	spaces map[int]plainSpace
}

type plainSpace struct {
	quota  int
	sealed bool
	pages  map[int]*string
}

func newPlain(g api.Geometry) plain {
	return plain{room: RoomOf(g), size: g.Size, spaces: map[int]plainSpace{}}
}

// behind is what comes of changes, or why they may not be.
func (p plain) behind(l []api.Change) (plain, api.Errno) {
	if len(l) > api.MostTx {
		return p, api.ErrInput
	}
	for _, c := range l {
		k := c.Record.Kind
		if len(c.Text) > p.size || k != api.RecPut && c.Text != "" || k < api.RecPut || k == api.RecMove || k > api.RecSeal {
			return p, api.ErrInput
		}
	}
	after := plain{p.room, p.size, map[int]plainSpace{}}
	for id, s := range p.spaces {
		after.spaces[id] = plainSpace{s.quota, s.sealed, maps.Clone(s.pages)}
	}
	for _, c := range l {
		if e := after.do(c); e != api.OK {
			return p, e
		}
	}
	places, keys := after.counts()
	if places > p.room.Places || keys > p.room.Keys {
		return p, api.ErrFull
	}
	return after, api.OK
}

func (p plain) do(c api.Change) api.Errno {
	r := c.Record
	if r.Kind == api.RecPut {
		r.At = 0
	}
	if !rec.Check(r) {
		return api.ErrInput
	}
	s, is := p.spaces[r.Space]
	if is == (r.Kind == api.RecMake) {
		return api.ErrSpace
	}
	switch r.Kind {
	case api.RecPut:
		if r.Page >= s.quota {
			return api.ErrPage
		}
		s.pages[r.Page] = &c.Text
	case api.RecTrim:
		if s.pages[r.Page] == nil {
			return api.ErrPage
		}
		delete(s.pages, r.Page)
	case api.RecMake:
		p.spaces[r.Space] = plainSpace{r.N, false, map[int]*string{}}
	case api.RecDrop:
		delete(p.spaces, r.Space)
	case api.RecCopy:
		if _, is := p.spaces[r.To]; is {
			return api.ErrSpace
		}
		p.spaces[r.To] = plainSpace{s.quota, false, maps.Clone(s.pages)}
	case api.RecSeal:
		p.spaces[r.Space] = plainSpace{s.quota, true, s.pages}
	}
	return api.OK
}

// counts is how many places there are, and how many pages.
func (p plain) counts() (int, int) {
	places, keys := map[*string]bool{}, 0
	for _, s := range p.spaces {
		for _, text := range s.pages {
			places[text] = true
			keys++
		}
	}
	return len(places), keys
}

// stands tells whether just this stands on a chip.
func (p plain) stands(f *FTL) bool {
	all := f.State().Spaces()
	if len(all) != len(p.spaces) {
		return false
	}
	for _, x := range all {
		s, is := p.spaces[x.ID]
		if !is || x != (api.Space{ID: x.ID, Quota: s.quota, Pages: len(s.pages), Sealed: s.sealed}) {
			return false
		}
		for page, want := range s.pages {
			if got, is, e := f.Read(x.ID, page); e != api.OK || !is || got != *want {
				return false
			}
		}
	}
	return true
}

// bench is a device on a chip, beside a plain one to which the same is done. Each call is held against what must be.
type bench struct {
	*FTL
	t     *testing.T
	r     *rand.Rand
	chip  *nand.Chip
	g     api.Geometry
	plain plain
	cuts  int
	calls int
}

func newBench(t *testing.T, g api.Geometry, bad ...int) *bench {
	t.Helper()
	c, e := nand.New(g, api.Faults{Bad: bad})
	if e != api.OK {
		t.Fatal(g, e)
	}
	f, e := Format(c)
	if e != api.OK || f == nil {
		t.Fatal(g, e)
	}
	return &bench{FTL: f, t: t, r: rand.New(rand.NewSource(int64(g.Blocks*g.Pages + g.Size))), chip: c, g: g, plain: newPlain(g)}
}

// wantCommit lets changes be done, and holds what is told against the plain device: where the power fails the next mount tells whether they were.
func (b *bench) wantCommit(l ...api.Change) api.Errno {
	b.t.Helper()
	b.calls++
	after, want := b.plain.behind(l)
	did := b.chip.Did()
	got := b.Commit(l)
	if got == api.ErrOff {
		b.cuts++
	}
	b.wantCheap(did)
	switch {
	case got == api.ErrOff:
		b.wantMount()
		if !b.plain.stands(b.FTL) {
			b.plain = after
			b.wantSame()
		}
	case got == api.ErrWorn && b.dead() > b.plain.room.Spare:
	case got != want:
		b.t.Fatal(b.g, "call", b.calls, "commit", got, "want", want, "free", b.Free())
	default:
		b.plain = after
	}
	return got
}

// mustCommit is for changes that may be.
func (b *bench) mustCommit(l ...api.Change) {
	b.t.Helper()
	if e := b.wantCommit(l...); e != api.OK {
		b.t.Fatal(b.g, "call", b.calls, "commit", e)
	}
}

// wantCheap asks that a call took few actions, and that blocks were erased alike.
func (b *bench) wantCheap(did int) {
	b.t.Helper()
	if n := b.chip.Did() - did; n > 3*b.g.Blocks*b.g.Pages {
		b.t.Fatal(b.g, "call", b.calls, "took", n, "actions")
	}
	if n := b.spread(); n > 2*api.Level+b.g.Blocks+b.cuts {
		b.t.Fatal(b.g, "call", b.calls, "erased", b.chip.Worn())
	}
}

// wantMount gives power until it is mounted.
func (b *bench) wantMount() {
	b.t.Helper()
	for {
		b.chip.Power()
		f, e := Mount(b.chip)
		if e == api.OK {
			b.FTL = f
			return
		}
		if e != api.ErrOff || f != nil {
			b.t.Fatal(b.g, "call", b.calls, "mount", e)
		}
		b.cuts++
	}
}

func (b *bench) wantSame() {
	b.t.Helper()
	if !b.plain.stands(b.FTL) {
		b.t.Fatal(b.g, "call", b.calls, "something else stands there")
	}
}

func (b *bench) dead() int {
	n := 0
	for _, is := range b.chip.Dead() {
		if is {
			n++
		}
	}
	return n
}

// spread is by how much counts of erasures are apart, of blocks that are not worn out.
func (b *bench) spread() int {
	least, most := 1<<30, 0
	for x, n := range b.chip.Worn() {
		if !b.chip.Dead()[x] {
			least, most = min(least, n), max(most, n)
		}
	}
	return most - least
}

func put(space, page int, text string) api.Change {
	return api.Change{Record: api.Record{Kind: api.RecPut, Space: space, Page: page}, Text: text}
}

func trim(space, page int) api.Change {
	return api.Change{Record: api.Record{Kind: api.RecTrim, Space: space, Page: page}}
}

func mk(space, n int) api.Change {
	return api.Change{Record: api.Record{Kind: api.RecMake, Space: space, N: n}}
}

func drop(space int) api.Change {
	return api.Change{Record: api.Record{Kind: api.RecDrop, Space: space}}
}

func double(space, to int) api.Change {
	return api.Change{Record: api.Record{Kind: api.RecCopy, Space: space, To: to}}
}

func seal(space int) api.Change {
	return api.Change{Record: api.Record{Kind: api.RecSeal, Space: space}}
}
