package txn

import (
	"sort"

	"tinderbox/api"
	"tinderbox/state"
)

// plain is a transaction as the chapter tells it, in lists that are gone over from end to end: what Txn is held against.
type plain struct {
	room    api.Room
	size    int
	spaces  []api.Space // Pages is not kept here
	pages   []leaf
	changes []api.Change
}

// leaf is a page of a space: where it stands, or (put is above 0) which Put it is of, and what that said.
type leaf struct {
	space, page int
	at, put     int
	text        string
}

// may tells whether a record may be one of a transaction, with the numbers of chapter 7 written out.
func may(r api.Record) bool {
	in := func(n, least, most int) bool { return n >= least && n <= most }
	if !in(r.Space, 1, 15) || r.At != 0 {
		return false
	}
	switch r.Kind {
	case 2:
		return in(r.Page, 0, 1023) && r.To == 0 && r.N == 0
	case 4:
		return in(r.N, 1, 1024) && r.Page == 0 && r.To == 0
	case 5, 7:
		return r.Page == 0 && r.To == 0 && r.N == 0
	case 6:
		return in(r.To, 1, 15) && r.Page == 0 && r.N == 0
	}
	return false
}

func plainOf(s *state.State, room api.Room, size int) plain {
	p := plain{room: room, size: size, spaces: s.Spaces()}
	for _, sp := range p.spaces {
		for page := range sp.Quota {
			if at, is := s.Get(sp.ID, page); is {
				p.pages = append(p.pages, leaf{space: sp.ID, page: page, at: at})
			}
		}
	}
	return p
}

// own is one with lists of its own.
func (p plain) own() plain {
	p.spaces = append([]api.Space{}, p.spaces...)
	p.pages = append([]leaf{}, p.pages...)
	p.changes = append([]api.Change{}, p.changes...)
	return p
}

func (p plain) space(id int) int {
	for i, sp := range p.spaces {
		if sp.ID == id {
			return i
		}
	}
	return -1
}

func (p plain) find(id, page int) int {
	for i, l := range p.pages {
		if l.space == id && l.page == page {
			return i
		}
	}
	return -1
}

// without is the pages but one of a space, or (with a page below 0) but all of it.
func (p plain) without(id, page int) []leaf {
	var left []leaf
	for _, l := range p.pages {
		if l.space != id || page >= 0 && l.page != page {
			left = append(left, l)
		}
	}
	return left
}

// live is at how many places something stands: each Put is one of its own.
func (p plain) live() int {
	n := 0
	for i, l := range p.pages {
		first := true
		for _, before := range p.pages[:i] {
			first = first && (before.at != l.at || before.put != l.put)
		}
		if first {
			n++
		}
	}
	return n
}

// open is why pages of a space may not be changed.
func (p plain) open(id int) api.Errno {
	i := p.space(id)
	if i < 0 {
		return 80
	}
	if p.spaces[i].Sealed {
		return 170
	}
	return 0
}

// put is what comes of a Put: one of its own, and the error, with which it is as it was.
func (p plain) put(id, page int, text string) (plain, api.Errno) {
	if len(text) > p.size {
		return p, 173
	}
	if e := p.open(id); e != 0 {
		return p, e
	}
	if len(p.changes) >= 8 {
		return p, 171
	}
	if page < 0 || page >= p.spaces[p.space(id)].Quota {
		return p, 81
	}
	q := p.own()
	q.changes = append(q.changes, api.Change{Record: api.Record{Kind: 1, Space: id, Page: page}, Text: text})
	q.pages = append(q.without(id, page), leaf{space: id, page: page, put: len(q.changes), text: text})
	return q.fits(p)
}

// fits is it, if there is room, else what was ahead of it.
func (p plain) fits(before plain) (plain, api.Errno) {
	if p.live() > p.room.Places || len(p.pages) > p.room.Keys {
		return before, 172
	}
	return p, 0
}

// do is what comes of a Do, as put is.
func (p plain) do(r api.Record) (plain, api.Errno) {
	if !may(r) {
		return p, 1
	}
	if e := p.open(r.Space); r.Kind == 2 && e != 0 {
		return p, e
	}
	if len(p.changes) >= 8 {
		return p, 171
	}
	q := p.own()
	q.changes = append(q.changes, api.Change{Record: r})
	if e := q.apply(r); e != 0 {
		return p, e
	}
	return q.fits(p)
}

// apply does a record that may be.
func (p *plain) apply(r api.Record) api.Errno {
	i := p.space(r.Space)
	if (i >= 0) == (r.Kind == 4) {
		return 80
	}
	switch r.Kind {
	case 2:
		if p.find(r.Space, r.Page) < 0 {
			return 81
		}
		p.pages = p.without(r.Space, r.Page)
	case 4:
		p.spaces = append(p.spaces, api.Space{ID: r.Space, Quota: r.N})
	case 5:
		p.pages = p.without(r.Space, -1)
		p.spaces = append(p.spaces[:i], p.spaces[i+1:]...)
	case 6:
		if p.space(r.To) >= 0 {
			return 80
		}
		p.spaces = append(p.spaces, api.Space{ID: r.To, Quota: p.spaces[i].Quota})
		for _, l := range p.pages {
			if l.space == r.Space {
				l.space = r.To
				p.pages = append(p.pages, l)
			}
		}
	case 7:
		p.spaces[i].Sealed = true
	}
	return 0
}

// all is the spaces by their numbers, with how many pages each has.
func (p plain) all() []api.Space {
	l := append([]api.Space{}, p.spaces...)
	sort.Slice(l, func(i, j int) bool { return l[i].ID < l[j].ID })
	for i := range l {
		l[i].Pages = 0
		for _, x := range p.pages {
			if x.space == l[i].ID {
				l[i].Pages++
			}
		}
	}
	return l
}
