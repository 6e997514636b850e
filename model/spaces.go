package model

import (
	"maps"
	"slices"

	"tinderbox/api"
	"tinderbox/rec"
)

// spaces is what is there: spaces by their numbers.
type spaces map[int]space

// space is what a space is, and its pages by their numbers: a map that is never changed in place, so that spaces of several may share it.
type space struct {
	quota  int
	sealed bool
	pages  map[int]leaf
}

// leaf is what a page says, and of which Put it has that. A copy has it of the same one: all pages of one Put take one place.
type leaf struct {
	put  int
	text string
}

// all is all spaces, by their numbers.
func (s spaces) all() []api.Space {
	var l []api.Space
	for _, id := range rising(s) {
		sp := s[id]
		l = append(l, api.Space{ID: id, Quota: sp.quota, Pages: len(sp.pages), Sealed: sp.sealed})
	}
	return l
}

// leaves is all pages, by space and page.
func (s spaces) leaves() []api.Leaf {
	var l []api.Leaf
	for _, id := range rising(s) {
		pages := s[id].pages
		for _, page := range rising(pages) {
			l = append(l, api.Leaf{Space: id, Page: page, Text: pages[page].text})
		}
	}
	return l
}

// fits tells whether there is room for that.
func (s spaces) fits(room api.Room) bool {
	keys := 0
	for _, sp := range s {
		keys += len(sp.pages)
	}
	if keys > room.Keys {
		return false
	}
	// No more places are taken than there are pages: they need be counted only where these are more.
	return keys <= room.Places || s.places() <= room.Places
}

// places is how many places are taken.
func (s spaces) places() int {
	puts := map[int]struct{}{}
	for _, sp := range s {
		for _, said := range sp.pages {
			puts[said.put] = struct{}{}
		}
	}
	return len(puts)
}

// closed is why pages of a space may not be changed.
func (s spaces) closed(id int) api.Errno {
	switch sp, is := s[id]; {
	case !is:
		return api.ErrSpace
	case sp.sealed:
		return api.ErrSealed
	}
	return api.OK
}

// put lets a page of a space that is there say something.
func (s spaces) put(id, page int, said leaf) api.Errno {
	sp := s[id]
	if page < 0 || page >= sp.quota {
		return api.ErrPage
	}
	sp.pages = maps.Clone(sp.pages)
	sp.pages[page] = said
	s[id] = sp
	return api.OK
}

// mayBe tells whether a record is one that Do does.
func mayBe(r api.Record) bool {
	switch r.Kind {
	case api.RecTrim, api.RecMake, api.RecDrop, api.RecCopy, api.RecSeal:
		return rec.Check(r)
	}
	return false
}

// apply does what a record says that may be.
func (s spaces) apply(r api.Record) api.Errno {
	sp, is := s[r.Space]
	if is == (r.Kind == api.RecMake) { // what is made must not be there, all else must
		return api.ErrSpace
	}
	switch r.Kind {
	case api.RecTrim:
		return s.trim(r.Space, r.Page)
	case api.RecMake:
		s[r.Space] = space{quota: r.N, pages: map[int]leaf{}}
	case api.RecDrop:
		delete(s, r.Space)
	case api.RecCopy:
		return s.double(sp, r.To)
	case api.RecSeal:
		sp.sealed = true
		s[r.Space] = sp
	}
	return api.OK
}

// trim takes a page off a space that is there.
func (s spaces) trim(id, page int) api.Errno {
	sp := s[id]
	if _, is := sp.pages[page]; !is {
		return api.ErrPage
	}
	sp.pages = maps.Clone(sp.pages)
	delete(sp.pages, page)
	s[id] = sp
	return api.OK
}

// double makes a space that has what another one has, but for its seal.
func (s spaces) double(sp space, to int) api.Errno {
	if _, is := s[to]; is {
		return api.ErrSpace
	}
	sp.sealed = false
	s[to] = sp
	return api.OK
}

// rising is a map's keys in their order: what is told must not hang on how a map is gone over.
func rising[V any](m map[int]V) []int {
	return slices.Sorted(maps.Keys(m))
}
