package state

import (
	"maps"
	"slices"

	"tinderbox/api"
)

// fill makes a state that New did not make one without anything: nothing can be kept in it before.
func (s *State) fill() {
	if s.spaces == nil {
		*s = *New()
	}
}

func (s *State) put(id, page, at int) api.Errno {
	sp := s.spaces[id]
	if sp == nil {
		return api.ErrSpace
	}
	if page >= sp.quota {
		return api.ErrPage
	}
	if old, is := sp.pages[page]; is {
		s.leave(old)
	}
	sp.pages[page] = at
	s.refs[at]++
	return api.OK
}

func (s *State) trim(id, page int) api.Errno {
	sp := s.spaces[id]
	if sp == nil {
		return api.ErrSpace
	}
	at, is := sp.pages[page]
	if !is {
		return api.ErrPage
	}
	s.leave(at)
	delete(sp.pages, page)
	return api.OK
}

// leave takes one page off a place; places at which none is left are not kept, so that Live can count them.
func (s *State) leave(at int) {
	s.refs[at]--
	if s.refs[at] == 0 {
		delete(s.refs, at)
	}
}

func (s *State) move(from, to int) api.Errno {
	if s.refs[from] == 0 || s.refs[to] != 0 {
		return api.ErrPlace
	}
	for _, sp := range s.spaces {
		for page, at := range sp.pages {
			if at == from {
				sp.pages[page] = to
			}
		}
	}
	s.refs[to] = s.refs[from]
	delete(s.refs, from)
	return api.OK
}

func (s *State) add(id, quota int) api.Errno {
	if s.spaces[id] != nil {
		return api.ErrSpace
	}
	s.spaces[id] = &space{quota: quota, pages: map[int]int{}}
	return api.OK
}

func (s *State) drop(id int) api.Errno {
	sp := s.spaces[id]
	if sp == nil {
		return api.ErrSpace
	}
	for _, at := range sp.pages {
		s.leave(at)
	}
	delete(s.spaces, id)
	return api.OK
}

func (s *State) double(id, to int) api.Errno {
	sp := s.spaces[id]
	if sp == nil || s.spaces[to] != nil {
		return api.ErrSpace
	}
	s.spaces[to] = &space{quota: sp.quota, pages: maps.Clone(sp.pages)}
	for _, at := range sp.pages {
		s.refs[at]++
	}
	return api.OK
}

func (s *State) seal(id int) api.Errno {
	if s.spaces[id] == nil {
		return api.ErrSpace
	}
	s.spaces[id].sealed = true
	return api.OK
}

// dump is records that make this space of nothing.
func (sp *space) dump(id int) []api.Record {
	all := []api.Record{{Kind: api.RecMake, Space: id, N: sp.quota}}
	for _, page := range rising(sp.pages) {
		all = append(all, api.Record{Kind: api.RecPut, Space: id, Page: page, At: sp.pages[page]})
	}
	if sp.sealed {
		all = append(all, api.Record{Kind: api.RecSeal, Space: id})
	}
	return all
}

// rising is a map's keys in their order: what is told must not hang on how a map is gone over.
func rising[V any](m map[int]V) []int {
	return slices.Sorted(maps.Keys(m))
}
