package life

import "tinderbox/api"

// plain is blocks as the chapter tells them, each with the pages that can be taken of it yet: what the calls are held against.
type plain struct {
	pages int
	what  map[int]string
	left  map[int]int
}

func newPlain(blocks, pages int) *plain {
	p := &plain{pages: pages, what: map[int]string{}, left: map[int]int{}}
	for b := range blocks {
		p.what[b] = "free"
		p.left[b] = pages
	}
	return p
}

func number(what string) int {
	switch what {
	case "free":
		return 0
	case "open":
		return 1
	case "full":
		return 2
	case "bad":
		return 3
	}
	return -1
}

func (p *plain) at() (int, int, bool) {
	for b, what := range p.what {
		if what == "open" {
			return b, p.pages - p.left[b], true
		}
	}
	return 0, 0, false
}

func (p *plain) open(b int) bool {
	if _, _, is := p.at(); is || p.what[b] != "free" {
		return false
	}
	p.what[b] = "open"
	return true
}

func (p *plain) take() (int, int, bool) {
	b, page, is := p.at()
	if is {
		p.left[b]--
		if p.left[b] == 0 {
			p.what[b] = "full"
		}
	}
	return b, page, is
}

func (p *plain) let(b int, what string) bool {
	was, is := p.what[b]
	if !is || was == "bad" {
		return false
	}
	p.what[b] = what
	p.left[b] = 0
	if what == "free" {
		p.left[b] = p.pages
	}
	return true
}

func (p *plain) room() int {
	n := 0
	for _, left := range p.left {
		n += left
	}
	return n
}

func (p *plain) count(what int) int {
	n := 0
	for _, is := range p.what {
		if number(is) == what {
			n++
		}
	}
	return n
}

// call is one of those that change something; kind is by its place in the chapter.
type call struct{ kind, b int }

// answer is what such a call tells; At's kind of answer is Take's.
type answer struct {
	b, page int
	is      bool
}

func (p *plain) do(c call) answer {
	switch c.kind {
	case 0:
		return answer{is: p.open(c.b)}
	case 1:
		b, page, is := p.take()
		return answer{b, page, is}
	case 2:
		return answer{is: p.let(c.b, "full")}
	case 3:
		return answer{is: p.let(c.b, "free")}
	}
	return answer{is: p.let(c.b, "bad")}
}

func do(l *Life, c call) answer {
	switch c.kind {
	case 0:
		return answer{is: l.Open(c.b)}
	case 1:
		b, page, is := l.Take()
		return answer{b, page, is}
	case 2:
		return answer{is: l.Full(c.b)}
	case 3:
		return answer{is: l.Free(c.b)}
	}
	return answer{is: l.Bad(c.b)}
}

// seen is all that can be told of blocks.
type seen struct {
	is    [api.MostBlocks + 2]int // from -1 on
	count [7]int                  // from -2 on
	room  int
	at    answer
}

func (p *plain) see() seen {
	s := seen{room: p.room()}
	for i := range s.is {
		s.is[i] = number(p.what[i-1])
	}
	for i := range s.count {
		s.count[i] = p.count(i - 2)
	}
	s.at.b, s.at.page, s.at.is = p.at()
	return s
}

func see(l *Life) seen {
	s := seen{room: l.Room()}
	for i := range s.is {
		s.is[i] = l.Is(i - 1)
	}
	for i := range s.count {
		s.count[i] = l.Count(i - 2)
	}
	s.at.b, s.at.page, s.at.is = l.At()
	return s
}
