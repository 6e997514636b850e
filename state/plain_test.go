package state

import (
	"sort"

	"tinderbox/api"
)

// plain is a state as the chapter tells it, in lists that are gone over from end to end: what the maps are held against.
type plain struct {
	spaces []api.Space // Pages is not kept here
	pages  []standing
	bad    []int
	worn   [][2]int // block, count
}

// standing is a page of a space that stands at a place.
type standing struct{ space, page, at int }

// may tells whether a record may be, with the numbers of chapter 7 written out.
func may(r api.Record) bool {
	in := func(n, least, most int) bool { return n >= least && n <= most }
	switch r.Kind {
	case 1:
		return in(r.Space, 1, 15) && in(r.Page, 0, 1023) && in(r.At, 0, 511) && r.To == 0 && r.N == 0
	case 2:
		return in(r.Space, 1, 15) && in(r.Page, 0, 1023) && r.At == 0 && r.To == 0 && r.N == 0
	case 3:
		return in(r.At, 0, 511) && in(r.To, 0, 511) && r.Space == 0 && r.Page == 0 && r.N == 0
	case 4:
		return in(r.Space, 1, 15) && in(r.N, 1, 1024) && r.Page == 0 && r.At == 0 && r.To == 0
	case 5, 7:
		return in(r.Space, 1, 15) && r.Page == 0 && r.At == 0 && r.To == 0 && r.N == 0
	case 6:
		return in(r.Space, 1, 15) && in(r.To, 1, 15) && r.Page == 0 && r.At == 0 && r.N == 0
	case 8:
		return in(r.At, 0, 31) && r.Space == 0 && r.Page == 0 && r.To == 0 && r.N == 0
	case 9:
		return in(r.At, 0, 31) && in(r.N, 0, 1073741824) && r.Space == 0 && r.Page == 0 && r.To == 0
	}
	return false
}

func (p *plain) space(id int) *api.Space {
	for i := range p.spaces {
		if p.spaces[i].ID == id {
			return &p.spaces[i]
		}
	}
	return nil
}

func (p *plain) find(id, page int) int {
	for i, s := range p.pages {
		if s.space == id && s.page == page {
			return i
		}
	}
	return -1
}

func (p *plain) refs(at int) int {
	n := 0
	for _, s := range p.pages {
		if s.at == at {
			n++
		}
	}
	return n
}

func (p *plain) live() int {
	n := 0
	for i, s := range p.pages {
		first := true
		for _, before := range p.pages[:i] {
			first = first && before.at != s.at
		}
		if first {
			n++
		}
	}
	return n
}

// without drops a page from the list, or (with a page below 0) all of a space.
func (p *plain) without(id, page int) {
	var left []standing
	for _, s := range p.pages {
		if s.space != id || page >= 0 && s.page != page {
			left = append(left, s)
		}
	}
	p.pages = left
}

func (p *plain) lay(id, page, at int) api.Errno {
	if id < 1 || id > 15 || page < 0 || page > 1023 || at < 0 {
		return 1
	}
	sp := p.space(id)
	if sp == nil {
		return 80
	}
	if page >= sp.Quota {
		return 81
	}
	p.without(id, page)
	p.pages = append(p.pages, standing{id, page, at})
	return 0
}

func (p *plain) apply(r api.Record) api.Errno {
	if !may(r) {
		return 1
	}
	switch r.Kind {
	case 1:
		return p.lay(r.Space, r.Page, r.At)
	case 3:
		return p.move(r.At, r.To)
	case 8:
		for _, b := range p.bad {
			if b == r.At {
				return 0
			}
		}
		p.bad = append(p.bad, r.At)
		return 0
	case 9:
		for i, w := range p.worn {
			if w[0] == r.At {
				if r.N > w[1] {
					p.worn[i][1] = r.N
				}
				return 0
			}
		}
		p.worn = append(p.worn, [2]int{r.At, r.N})
		return 0
	}
	return p.applySpace(r)
}

func (p *plain) move(at, to int) api.Errno {
	if p.refs(at) == 0 || p.refs(to) > 0 {
		return 82
	}
	for i := range p.pages {
		if p.pages[i].at == at {
			p.pages[i].at = to
		}
	}
	return 0
}

func (p *plain) applySpace(r api.Record) api.Errno {
	sp := p.space(r.Space)
	if r.Kind == 4 {
		if sp != nil {
			return 80
		}
		p.spaces = append(p.spaces, api.Space{ID: r.Space, Quota: r.N})
		return 0
	}
	if sp == nil {
		return 80
	}
	switch r.Kind {
	case 2:
		if p.find(r.Space, r.Page) < 0 {
			return 81
		}
		p.without(r.Space, r.Page)
	case 5:
		p.without(r.Space, -1)
		var left []api.Space
		for _, o := range p.spaces {
			if o.ID != r.Space {
				left = append(left, o)
			}
		}
		p.spaces = left
	case 6:
		if p.space(r.To) != nil {
			return 80
		}
		p.spaces = append(p.spaces, api.Space{ID: r.To, Quota: sp.Quota})
		for _, s := range p.pages {
			if s.space == r.Space {
				p.pages = append(p.pages, standing{r.To, s.page, s.at})
			}
		}
	case 7:
		sp.Sealed = true
	}
	return 0
}

// all is the spaces by their numbers, with how many pages each has.
func (p *plain) all() []api.Space {
	l := append([]api.Space{}, p.spaces...)
	sort.Slice(l, func(i, j int) bool { return l[i].ID < l[j].ID })
	for i := range l {
		for _, s := range p.pages {
			if s.space == l[i].ID {
				l[i].Pages++
			}
		}
	}
	return l
}

// dump is the records in the order that promise 8.2 names.
func (p *plain) dump() []api.Record {
	pages := append([]standing{}, p.pages...)
	sort.Slice(pages, func(i, j int) bool { return pages[i].page < pages[j].page })
	bad := append([]int{}, p.bad...)
	sort.Ints(bad)
	worn := append([][2]int{}, p.worn...)
	sort.Slice(worn, func(i, j int) bool { return worn[i][0] < worn[j][0] })
	var l []api.Record
	for _, sp := range p.all() {
		l = append(l, api.Record{Kind: 4, Space: sp.ID, N: sp.Quota})
		for _, s := range pages {
			if s.space == sp.ID {
				l = append(l, api.Record{Kind: 1, Space: sp.ID, Page: s.page, At: s.at})
			}
		}
		if sp.Sealed {
			l = append(l, api.Record{Kind: 7, Space: sp.ID})
		}
	}
	for _, b := range bad {
		l = append(l, api.Record{Kind: 8, At: b})
	}
	for _, w := range worn {
		l = append(l, api.Record{Kind: 9, At: w[0], N: w[1]})
	}
	return l
}
