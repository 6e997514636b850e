package nand

import (
	"bytes"
	"math/rand"
	"slices"
	"testing"

	"tinderbox/api"
)

// plain is a chip as the chapter tells it, with all bytes of all pages laid out, beside which a Chip is held.
type plain struct {
	g      api.Geometry
	f      api.Faults
	bytes  [][][]byte
	worn   []int
	dead   []bool
	marked []bool
	did    int
	off    bool
}

func newPlain(g api.Geometry, f api.Faults) *plain {
	m := &plain{g: g, f: f, worn: make([]int, g.Blocks), dead: make([]bool, g.Blocks), marked: make([]bool, g.Blocks)}
	for range g.Blocks {
		var pages [][]byte
		for range g.Pages {
			pages = append(pages, bytes.Repeat([]byte{255}, g.Size+api.SpareLen))
		}
		m.bytes = append(m.bytes, pages)
	}
	for _, b := range f.Bad {
		m.marked[b], m.dead[b] = true, true
	}
	return m
}

func (m *plain) refuses(b, p int) api.Errno {
	if m.off {
		return api.ErrOff
	}
	if b < 0 || b >= m.g.Blocks || p < 0 || p >= m.g.Pages {
		return api.ErrAddress
	}
	return api.OK
}

// act counts an action, and tells its cut and whether it fails.
func (m *plain) act() (*api.Cut, bool) {
	m.did++
	for i := range m.f.Cuts {
		if m.f.Cuts[i].At == m.did {
			m.off = true
			return &m.f.Cuts[i], false
		}
	}
	return nil, slices.Contains(m.f.Fails, m.did)
}

func (m *plain) program(b, p int, raw []byte) api.Errno {
	if err := m.refuses(b, p); err != api.OK {
		return err
	}
	for _, page := range m.bytes[b][p:] {
		for _, x := range page {
			if x != 255 {
				return api.ErrUse
			}
		}
	}
	cut, fails := m.act()
	page := m.bytes[b][p]
	for i := range page {
		switch {
		case cut != nil && i >= cut.Keep:
			page[i] = cut.Fill
		case cut == nil && (fails || m.dead[b]):
			page[i] = 0
		default:
			page[i] = raw[i]
		}
	}
	if cut != nil {
		return api.ErrOff
	}
	if m.dead[b] = m.dead[b] || fails; m.dead[b] {
		return api.ErrProgram
	}
	return api.OK
}

func (m *plain) erase(b int) api.Errno {
	if err := m.refuses(b, 0); err != api.OK {
		return err
	}
	m.worn[b]++
	cut, fails := m.act()
	m.dead[b] = m.dead[b] || fails
	if cut == nil && m.dead[b] {
		return api.ErrErase
	}
	for p, page := range m.bytes[b] {
		for i := range page {
			if cut == nil || p < cut.Keep {
				page[i] = 255
			} else if p == cut.Keep {
				page[i] = cut.Fill
			}
		}
	}
	if cut != nil {
		return api.ErrOff
	}
	return api.OK
}

func (m *plain) mark(b int) api.Errno {
	if err := m.refuses(b, 0); err != api.OK {
		return err
	}
	if cut, _ := m.act(); cut != nil {
		m.marked[b] = m.marked[b] || cut.Keep > 0
		return api.ErrOff
	}
	m.marked[b] = true
	return api.OK
}

func randomFaults(r *rand.Rand, g api.Geometry) api.Faults {
	var f api.Faults
	for range r.Intn(12) {
		f.Cuts = append(f.Cuts, api.Cut{At: r.Intn(120), Keep: r.Intn(g.Size+api.SpareLen+6) - 3, Fill: []byte{0, 255, byte(r.Intn(256))}[r.Intn(3)]})
		f.Cuts = append(f.Cuts, api.Cut{At: r.Intn(120), Keep: r.Intn(g.Pages+4) - 2, Fill: []byte{0, 255, byte(r.Intn(256))}[r.Intn(3)]})
	}
	for range r.Intn(4) {
		f.Fails = append(f.Fails, r.Intn(120))
	}
	for range r.Intn(3) {
		f.Bad = append(f.Bad, r.Intn(g.Blocks))
	}
	return f
}

// same holds all that can be told against the plain chip.
func same(t *testing.T, c *Chip, m *plain) {
	t.Helper()
	if c.Off() != m.off || c.Did() != m.did || !slices.Equal(c.Worn(), m.worn) || !slices.Equal(c.Dead(), m.dead) || c.Geometry() != m.g {
		t.Fatalf("off %v %v, did %d %d, worn %v %v, dead %v %v", c.Off(), m.off, c.Did(), m.did, c.Worn(), m.worn, c.Dead(), m.dead)
	}
	for b := range m.g.Blocks {
		marked, err := c.Marked(b)
		if err != m.refuses(b, 0) || marked != (m.marked[b] && !m.off) {
			t.Fatalf("block %d: marked %v %d", b, marked, err)
		}
		for p := range m.g.Pages {
			data, spare, err := c.Read(b, p)
			want := string(m.bytes[b][p])
			if m.off {
				want = ""
			}
			if err != m.refuses(b, p) || data+spare != want || !m.off && len(data) != m.g.Size {
				t.Fatalf("page %d of block %d: %q %q %d, want %q", p, b, data, spare, err, want)
			}
		}
	}
}

// step does one thing to both.
func step(t *testing.T, r *rand.Rand, c *Chip, m *plain) {
	t.Helper()
	b, p := r.Intn(m.g.Blocks+1), r.Intn(m.g.Pages+1) // one too far now and then
	if r.Intn(3) > 0 {
		b = r.Intn(2) // few blocks, so that they become full
	}
	var got, want api.Errno
	switch r.Intn(12) {
	case 0, 1:
		got, want = c.Erase(b), m.erase(b)
	case 2:
		got, want = c.Mark(b), m.mark(b)
	case 3:
		c.Power()
		m.off = false
	case 4:
		if r.Intn(8) == 0 {
			f := randomFaults(r, m.g)
			c.Arm(f)
			m.f, m.did = f, 0
		}
	default:
		raw := bytes.Repeat([]byte{byte(r.Intn(256))}, m.g.Size+api.SpareLen)
		if r.Intn(4) == 0 {
			raw = bytes.Repeat([]byte{255}, m.g.Size+api.SpareLen)
		} else {
			r.Read(raw)
		}
		got, want = c.Program(b, p, string(raw[:m.g.Size]), string(raw[m.g.Size:])), m.program(b, p, raw)
	}
	if got != want {
		t.Fatalf("%d, want %d", got, want)
	}
}

func TestAsPlain(t *testing.T) {
	for seed := range int64(60) {
		r := rand.New(rand.NewSource(seed))
		g := api.Geometry{Blocks: 8 + r.Intn(3), Pages: 4 + r.Intn(4), Size: 64 + r.Intn(40)}
		f := randomFaults(r, g)
		c, err := New(g, f)
		if err != api.OK {
			t.Fatal(err)
		}
		m := newPlain(g, f)
		for range 200 {
			step(t, r, c, m)
			same(t, c, m)
		}
	}
}
