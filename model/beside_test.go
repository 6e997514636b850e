package model

import (
	"math/rand"
	"slices"
	"strconv"
	"testing"

	"tinderbox/api"
	"tinderbox/dev"
	"tinderbox/ftl"
	"tinderbox/nand"
	"tinderbox/state"
	"tinderbox/txn"
)

// device is what a plain one is, and what it is held against.
type device interface {
	Begin() api.Errno
	Put(id, page int, text string) api.Errno
	Do(r api.Record) api.Errno
	Commit() api.Errno
	Abort() api.Errno
	Get(id, page int) (string, api.Errno)
	Spaces() []api.Space
}

// onChip is a device on a chip on which nothing fails.
func onChip(t *testing.T, g api.Geometry) device {
	t.Helper()
	c, e := nand.New(g, api.Faults{})
	if e != api.OK {
		t.Fatal(g, e)
	}
	d, e := dev.Format(c)
	if e != api.OK {
		t.Fatal(g, e)
	}
	return d
}

// gathered is a device made of transactions over a state, without a chip: with any room, and pages of any size.
type gathered struct {
	room  api.Room
	size  int
	stand *state.State
	texts []string // by the places at which they stand
	open  *txn.Txn
}

func newGathered(room api.Room, size int) *gathered {
	return &gathered{room: room, size: size, stand: state.New()}
}

func (d *gathered) Begin() api.Errno {
	if d.open != nil {
		return 180
	}
	d.open = txn.New(d.stand, d.room, d.size)
	return 0
}

func (d *gathered) Put(id, page int, text string) api.Errno {
	if d.open == nil {
		return 180
	}
	return d.open.Put(id, page, text)
}

func (d *gathered) Do(r api.Record) api.Errno {
	if d.open == nil {
		return 180
	}
	return d.open.Do(r)
}

func (d *gathered) Commit() api.Errno {
	if d.open == nil {
		return 180
	}
	for _, c := range d.open.Changes() {
		var e api.Errno
		if r := c.Record; r.Kind == 1 {
			// Places beyond these are told as those of what a transaction put.
			if len(d.texts) >= api.MostAt {
				d.gather()
			}
			e = d.stand.Lay(r.Space, r.Page, len(d.texts))
			d.texts = append(d.texts, c.Text)
		} else {
			e = d.stand.Apply(r)
		}
		if e != 0 {
			return e
		}
	}
	d.open = nil
	return 0
}

// gather lets what stands somewhere stand at the first places.
func (d *gathered) gather() {
	var texts []string
	for at, s := range d.texts {
		if d.stand.Refs(at) == 0 {
			continue
		}
		if at != len(texts) {
			d.stand.Apply(api.Record{Kind: 3, At: at, To: len(texts)})
		}
		texts = append(texts, s)
	}
	d.texts = texts
}

func (d *gathered) Abort() api.Errno {
	if d.open == nil {
		return 180
	}
	d.open = nil
	return 0
}

func (d *gathered) Get(id, page int) (string, api.Errno) {
	at, is := d.stand.Get(id, page)
	if d.open != nil {
		var s string
		if s, at, is = d.open.Get(id, page); is && at >= api.MostAt {
			return s, 0
		}
	}
	if !is {
		return "", 181
	}
	return d.texts[at], 0
}

func (d *gathered) Spaces() []api.Space {
	if d.open != nil {
		return d.open.Spaces()
	}
	return d.stand.Spaces()
}

// step is one of all that can be done.
type step struct {
	what     string
	id, page int
	text     string
	record   api.Record
}

// answer is what comes of a step.
type answer struct {
	text string
	e    api.Errno
}

func (x step) does(d device) answer {
	switch x.what {
	case "begin":
		return answer{e: d.Begin()}
	case "put":
		return answer{e: d.Put(x.id, x.page, x.text)}
	case "do":
		return answer{e: d.Do(x.record)}
	case "commit":
		return answer{e: d.Commit()}
	case "abort":
		return answer{e: d.Abort()}
	}
	s, e := d.Get(x.id, x.page)
	return answer{s, e}
}

// leavesOf is all pages that a device tells, by space and page.
func leavesOf(d device) []api.Leaf {
	var l []api.Leaf
	for _, sp := range d.Spaces() {
		for page := range sp.Quota {
			if s, e := d.Get(sp.ID, page); e == api.OK {
				l = append(l, api.Leaf{Space: sp.ID, Page: page, Text: s})
			}
		}
	}
	return l
}

// differs tells in what a plain device is another one than that; "": in nothing.
func differs(m *Model, d device) string {
	spaces := d.Spaces()
	if !slices.Equal(m.Spaces(), spaces) {
		return "spaces"
	}
	for _, sp := range append(spaces, api.Space{ID: 99, Quota: 1}) {
		for page := -1; page <= sp.Quota; page++ {
			get := step{what: "get", id: sp.ID, page: page}
			if get.does(m) != get.does(d) {
				return "page " + strconv.Itoa(page) + " of " + strconv.Itoa(sp.ID)
			}
		}
	}
	if !slices.Equal(m.Leaves(), leavesOf(d)) {
		return "leaves"
	}
	return ""
}

// pair is a plain device beside another one, to which the same is done.
type pair struct {
	t    *testing.T
	r    *rand.Rand
	name string
	m    *Model
	d    device
	// Few spaces and pages, so that changes meet.
	spaces, pages, size int
	errs                map[api.Errno]int // how often each was told
}

// want does a step, and asks that the same comes of it from both.
func (p *pair) want(x step) api.Errno {
	p.t.Helper()
	got, want := x.does(p.m), x.does(p.d)
	if got != want {
		p.t.Fatalf("%s: %#v: %#v, not %#v", p.name, x, got, want)
	}
	p.errs[got.e]++
	return got.e
}

func (p *pair) wantSame() {
	p.t.Helper()
	if what := differs(p.m, p.d); what != "" {
		p.t.Fatalf("%s: other %s: %+v, not %+v", p.name, what, p.m.Spaces(), p.d.Spaces())
	}
}

func (p *pair) record() api.Record {
	id, to := 1+p.r.Intn(p.spaces), 1+p.r.Intn(p.spaces)
	switch p.r.Intn(12) {
	case 0, 1, 2:
		return trim(id, p.r.Intn(p.pages))
	case 3, 4:
		return mk(id, 1+p.r.Intn(p.pages))
	case 5:
		return drop(id)
	case 6, 7, 8:
		return double(id, to)
	case 9:
		return seal(id)
	}
	return api.Record{Kind: p.r.Intn(11), Space: p.r.Intn(17), Page: p.r.Intn(2), At: p.r.Intn(2), To: p.r.Intn(2), N: p.r.Intn(2)}
}

// step is any of them; changes come oftener than what ends a transaction, so that each may have too many.
func (p *pair) step() step {
	id, page := 1+p.r.Intn(p.spaces), p.r.Intn(p.pages+1)-1
	switch n := p.r.Intn(40); {
	case n < 5:
		return step{what: "begin"}
	case n < 7:
		return step{what: "commit"}
	case n == 7 && p.r.Intn(3) == 0:
		return step{what: "abort"}
	case n < 12:
		return step{what: "get", id: id, page: page}
	case n < 20:
		return step{what: "do", record: p.record()}
	}
	text := make([]byte, p.r.Intn(max(p.size, 0)+1))
	p.r.Read(text)
	if p.r.Intn(20) == 0 {
		text = make([]byte, max(p.size, 0)+1)
	}
	return step{what: "put", id: id, page: page, text: string(text)}
}

// branch goes on with one of two, the plain device or its copy, behind some steps of the other one alone.
func (p *pair) branch() {
	other := p.m.Copy()
	if p.r.Intn(2) == 0 {
		p.m, other = other, p.m
	}
	for range p.r.Intn(12) {
		p.step().does(other)
	}
}

func (p *pair) run(steps int) {
	p.t.Helper()
	for n := range steps {
		p.want(p.step())
		if p.r.Intn(10) == 0 {
			p.branch()
		}
		if n%20 == 0 {
			p.wantSame()
		}
	}
	p.wantSame()
}

// wantAll asks that each error was told often enough to tell anything.
func wantAll(t *testing.T, errs map[api.Errno]int) {
	t.Helper()
	for _, e := range []api.Errno{
		api.OK, api.ErrInput, api.ErrSpace, api.ErrPage, api.ErrSealed, api.ErrMany, api.ErrRoom, api.ErrLong, api.ErrOpen, api.ErrNone,
	} {
		if errs[e] < 50 {
			t.Errorf("error %d came %d times", e, errs[e])
		}
	}
}

// TestAsTheDeviceOnAChip: where nothing fails, each call answers as that of the device on a chip, and both show the same.
func TestAsTheDeviceOnAChip(t *testing.T) {
	errs := map[api.Errno]int{}
	for _, g := range []api.Geometry{
		{Blocks: 16, Pages: 8, Size: 64},
		{Blocks: 12, Pages: 4, Size: 192},
		{Blocks: 24, Pages: 4, Size: 64},
		{Blocks: 8, Pages: 16, Size: 256},
		{Blocks: 31, Pages: 13, Size: 71},
	} {
		room := ftl.RoomOf(g)
		for _, spaces := range []int{2, 4, 15} {
			p := &pair{
				t: t, r: rand.New(rand.NewSource(int64(g.Blocks*g.Pages + spaces))), name: strconv.Itoa(g.Blocks) + " blocks",
				m: New(room, g.Size), d: onChip(t, g), spaces: spaces, pages: room.Places + 2, size: g.Size, errs: errs,
			}
			p.run(3000)
		}
	}
	wantAll(t, errs)
}

// TestAsTransactionsOverAState: with any room, and pages of any size, as transactions tell it.
func TestAsTransactionsOverAState(t *testing.T) {
	errs := map[api.Errno]int{}
	r := rand.New(rand.NewSource(19))
	for n := range 600 {
		room, size := api.Room{Places: r.Intn(10) - 1, Keys: r.Intn(16) - 1, Reserve: r.Intn(3), Spare: r.Intn(3)}, r.Intn(5)-1
		p := &pair{
			t: t, r: r, name: "run " + strconv.Itoa(n), m: New(room, size), d: newGathered(room, size),
			spaces: 1 + r.Intn(4), pages: 1 + r.Intn(5), size: size, errs: errs,
		}
		p.run(300)
	}
	wantAll(t, errs)
}

// change is one that is mostly let be, so that a transaction comes to many, and the room to its end.
func (p *pair) change() step {
	id, to, page := 1+p.r.Intn(p.spaces), 1+p.r.Intn(p.spaces), p.r.Intn(p.pages)
	switch p.r.Intn(30) {
	case 0, 1:
		return step{what: "do", record: mk(id, p.pages)}
	case 2, 3:
		return step{what: "do", record: trim(id, page)}
	case 4, 5:
		return step{what: "do", record: double(id, to)}
	case 6:
		return step{what: "do", record: seal(id)}
	case 7, 8:
		return step{what: "do", record: drop(id)}
	}
	return step{what: "put", id: id, page: page, text: strconv.Itoa(p.r.Int())}
}

// TestTransactionsOfManyChanges: they are committed and aborted, one behind the other, each of as many changes as are let be.
func TestTransactionsOfManyChanges(t *testing.T) {
	g := api.Geometry{Blocks: 16, Pages: 8, Size: 64}
	room := ftl.RoomOf(g)
	p := &pair{
		t: t, r: rand.New(rand.NewSource(56)), name: "transactions", m: New(room, g.Size), d: onChip(t, g),
		spaces: 4, pages: room.Places, size: g.Size, errs: map[api.Errno]int{},
	}
	ends := map[string]int{}
	for range 600 {
		p.want(step{what: "begin"})
		for range 20 {
			p.want(p.change())
		}
		p.wantSame()
		end := "commit"
		if p.r.Intn(3) == 0 {
			end = "abort"
		}
		ends[end]++
		if e := p.want(step{what: end}); e != api.OK {
			t.Fatal(end, e)
		}
		p.wantSame()
	}
	if ends["commit"] < 100 || ends["abort"] < 100 || p.errs[api.ErrMany] < 100 || p.errs[api.ErrRoom] < 100 {
		t.Error("too few of one kind to tell anything", ends, p.errs)
	}
}

// TestAllShortLists: of few steps, all lists of four, behind a beginning.
func TestAllShortLists(t *testing.T) {
	put := func(id, page int, text string) step { return step{what: "put", id: id, page: page, text: text} }
	do := func(r api.Record) step { return step{what: "do", record: r} }
	steps := []step{
		{what: "begin"}, {what: "commit"}, {what: "abort"},
		put(1, 0, "a"), put(1, 1, "b"), put(2, 0, "c"), put(2, 2, "ddd"),
		do(mk(2, 2)), do(trim(1, 0)), do(drop(1)), do(drop(2)), do(double(1, 2)), do(double(2, 1)), do(seal(1)), do(seal(2)),
	}
	begun := []step{{what: "begin"}, do(mk(1, 2)), put(1, 0, "z"), {what: "commit"}, {what: "begin"}}
	room := api.Room{Places: 2, Keys: 3}
	const length = 4
	all := 1
	for range length {
		all *= len(steps)
	}
	for n := range all {
		list := slices.Clone(begun)
		for k := n; len(list) < len(begun)+length; k /= len(steps) {
			list = append(list, steps[k%len(steps)])
		}
		m, d := New(room, 2), newGathered(room, 2)
		for _, x := range list {
			if got, want := x.does(m), x.does(d); got != want {
				t.Fatalf("%#v: %#v, not %#v", list, got, want)
			}
		}
		if what := differs(m, d); what != "" {
			t.Fatalf("%#v: other %s", list, what)
		}
	}
}
