package write

import (
	"tinderbox/api"
	"tinderbox/nand"
	"tinderbox/page"
)

// plain is a writer as the chapter tells it, with blocks of its own, on a chip to which the same happens: what the calls are held against.
type plain struct {
	chip *nand.Chip
	g    api.Geometry
	is   []int
	next int // of the open block
	worn []int
	bads []int
}

func newPlain(g api.Geometry, f api.Faults, worn []int) *plain {
	c, _ := nand.New(g, f)
	return &plain{chip: c, g: g, is: make([]int, g.Blocks), worn: append([]int(nil), worn...)}
}

func (p *plain) open() int {
	for b, is := range p.is {
		if is == api.BlockOpen {
			return b
		}
	}
	return -1
}

func (p *plain) leastFree() int {
	least := -1
	for b := len(p.is) - 1; b >= 0; b-- {
		if p.is[b] == api.BlockFree && (least < 0 || p.worn[b] <= p.worn[least]) {
			least = b
		}
	}
	return least
}

func (p *plain) fails(b int) api.Errno {
	p.is[b] = api.BlockBad
	for _, known := range p.bads {
		if known == b {
			return p.chip.Mark(b)
		}
	}
	p.bads = append(p.bads, b)
	return p.chip.Mark(b)
}

func (p *plain) write(t api.Tag, s string) (int, api.Errno) {
	t.Worn = 0
	if _, _, e := page.Frame(t, s, p.g.Size); e != api.OK {
		return 0, api.ErrInput
	}
	for {
		b := p.open()
		if b < 0 {
			if b = p.leastFree(); b < 0 {
				return 0, api.ErrFull
			}
			p.is[b], p.next = api.BlockOpen, 0
		}
		n := p.next
		p.next++
		if p.next == p.g.Pages {
			p.is[b] = api.BlockFull
		}
		t.Worn = p.worn[b]
		data, spare, _ := page.Frame(t, s, p.g.Size)
		switch e := p.chip.Program(b, n, data, spare); e {
		case api.OK:
			return b*p.g.Pages + n, api.OK
		case api.ErrUse:
			p.is[b] = api.BlockFull
		case api.ErrProgram:
			if e := p.fails(b); e != api.OK {
				return 0, e
			}
		default:
			return 0, e
		}
	}
}

func (p *plain) erase(b int) api.Errno {
	if b < 0 || b >= p.g.Blocks {
		return api.ErrInput
	}
	e := p.chip.Erase(b)
	if e == api.OK {
		p.worn[b]++
		if p.is[b] != api.BlockBad {
			p.is[b] = api.BlockFree
		}
	}
	if e == api.ErrErase {
		return p.fails(b)
	}
	return e
}

func (p *plain) read(at int) (api.Tag, string, api.Errno) {
	if p.chip.Off() {
		return api.Tag{}, "", api.ErrOff
	}
	if at < 0 || at >= p.g.Blocks*p.g.Pages {
		return api.Tag{}, "", api.ErrAddress
	}
	data, spare, _ := p.chip.Read(at/p.g.Pages, at%p.g.Pages)
	if class, t, s := page.Look(data, spare); class == api.ClassValid {
		return t, s, api.OK
	}
	return api.Tag{}, "", api.ErrForm
}

func (p *plain) tell() []int {
	told := p.bads
	p.bads = nil
	return told
}

func (p *plain) wears(what ...int) []api.Wear {
	var out []api.Wear
	for b, is := range p.is {
		for _, x := range what {
			if is == x {
				out = append(out, api.Wear{Block: b, N: p.worn[b]})
				break
			}
		}
	}
	return out
}
