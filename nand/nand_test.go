package nand

import (
	"math"
	"slices"
	"strings"
	"testing"

	"tinderbox/api"
)

// small is the least chip that may be.
var small = api.Geometry{Blocks: api.LeastBlocks, Pages: api.LeastPages, Size: api.LeastSize}

// pageLen is how many bytes a page of the small chip has, with those beside.
const pageLen = api.LeastSize + api.SpareLen

var (
	erased = strings.Repeat("\xff", pageLen)
	zeros  = strings.Repeat("\x00", pageLen)
	letter = strings.Repeat("a", pageLen)
	// apart has another byte at each place, so that each byte that is wrong is seen.
	apart = distinct()
)

func distinct() string {
	var out []byte
	for i := range pageLen {
		out = append(out, byte(100+i))
	}
	return string(out)
}

func chip(t *testing.T, f api.Faults) *Chip {
	t.Helper()
	c, err := New(small, f)
	if err != api.OK || c == nil {
		t.Fatalf("New: %d", err)
	}
	return c
}

// program writes all bytes of a page.
func program(c *Chip, b, p int, raw string) api.Errno {
	return c.Program(b, p, raw[:api.LeastSize], raw[api.LeastSize:])
}

// holds asks for all bytes of a page, and that they are told in two parts.
func holds(t *testing.T, c *Chip, b, p int, want string) {
	t.Helper()
	data, spare, err := c.Read(b, p)
	if err != api.OK || len(data) != api.LeastSize || len(spare) != api.SpareLen || data+spare != want {
		t.Errorf("page %d of block %d: %q %q %d, want %q", p, b, data, spare, err, want)
	}
}

// is asks for an error.
func is(t *testing.T, what string, got, want api.Errno) {
	t.Helper()
	if got != want {
		t.Errorf("%s: %d, want %d", what, got, want)
	}
}

func TestCheck(t *testing.T) {
	for _, c := range []struct {
		g    api.Geometry
		want bool
	}{
		{api.Geometry{Blocks: 8, Pages: 4, Size: 64}, true},
		{api.Geometry{Blocks: 32, Pages: 16, Size: 256}, true},
		{api.Geometry{Blocks: 9, Pages: 5, Size: 65}, true},
		{api.Geometry{Blocks: 8, Pages: 16, Size: 64}, true},
		{api.Geometry{Blocks: 7, Pages: 4, Size: 64}, false},
		{api.Geometry{Blocks: 33, Pages: 4, Size: 64}, false},
		{api.Geometry{Blocks: 8, Pages: 3, Size: 64}, false},
		{api.Geometry{Blocks: 8, Pages: 17, Size: 64}, false},
		{api.Geometry{Blocks: 8, Pages: 4, Size: 63}, false},
		{api.Geometry{Blocks: 8, Pages: 4, Size: 257}, false},
		{api.Geometry{}, false},
		{api.Geometry{Blocks: -8, Pages: -4, Size: -64}, false},
		{api.Geometry{Blocks: math.MaxInt, Pages: math.MaxInt, Size: math.MaxInt}, false},
		{api.Geometry{Blocks: math.MinInt, Pages: 4, Size: 64}, false},
	} {
		if got := Check(c.g); got != c.want {
			t.Errorf("Check(%v) = %v", c.g, got)
		}
		made, err := New(c.g, api.Faults{})
		if c.want && (err != api.OK || made == nil || made.Geometry() != c.g) {
			t.Errorf("New(%v): %v %d", c.g, made, err)
		}
		if !c.want && (err != api.ErrInput || made != nil) {
			t.Errorf("New(%v): %v %d, want ErrInput", c.g, made, err)
		}
	}
}

func TestNewIsErased(t *testing.T) {
	for _, g := range []api.Geometry{small, {Blocks: 32, Pages: 16, Size: 256}, {Blocks: 11, Pages: 7, Size: 100}} {
		c, _ := New(g, api.Faults{})
		for b := range g.Blocks {
			for p := range g.Pages {
				data, spare, err := c.Read(b, p)
				if err != api.OK || data != strings.Repeat("\xff", g.Size) || spare != strings.Repeat("\xff", api.SpareLen) {
					t.Fatalf("%v: page %d of block %d: %q %q %d", g, p, b, data, spare, err)
				}
			}
			if marked, err := c.Marked(b); marked || err != api.OK {
				t.Errorf("%v: block %d: %v %d", g, b, marked, err)
			}
		}
		if c.Off() || c.Did() != 0 || !slices.Equal(c.Worn(), make([]int, g.Blocks)) || !slices.Equal(c.Dead(), make([]bool, g.Blocks)) {
			t.Errorf("%v: %v %d %v %v", g, c.Off(), c.Did(), c.Worn(), c.Dead())
		}
	}
}

func TestProgram(t *testing.T) {
	c := chip(t, api.Faults{})
	is(t, "first", program(c, 2, 0, apart), api.OK)
	is(t, "next", program(c, 2, 1, letter), api.OK)
	is(t, "last page of the last block", program(c, 7, 3, apart), api.OK)
	holds(t, c, 2, 0, apart)
	holds(t, c, 2, 1, letter)
	holds(t, c, 2, 2, erased)
	holds(t, c, 1, 0, erased)
	holds(t, c, 7, 3, apart)
	if c.Did() != 3 {
		t.Errorf("did %d", c.Did())
	}
}

func TestProgramUse(t *testing.T) {
	c := chip(t, api.Faults{})
	is(t, "page 0", program(c, 0, 0, apart), api.OK)
	is(t, "page 0 again", program(c, 0, 0, letter), api.ErrUse)
	is(t, "page 2", program(c, 0, 2, apart), api.OK)
	is(t, "page 1, ahead of one that is written", program(c, 0, 1, letter), api.ErrUse)
	is(t, "page 0, the same bytes", program(c, 0, 0, apart), api.ErrUse)
	is(t, "page 3, behind all", program(c, 0, 3, letter), api.OK)
	is(t, "page 0 of another block", program(c, 1, 0, letter), api.OK)
	is(t, "the last of a block alone", program(c, 3, 3, letter), api.OK)
	for p := range 4 {
		is(t, "ahead of the last", program(c, 3, p, letter), api.ErrUse)
	}
	holds(t, c, 0, 0, apart)
	holds(t, c, 0, 1, erased)
	holds(t, c, 0, 2, apart)
	holds(t, c, 3, 0, erased)
	if c.Did() != 5 {
		t.Errorf("did %d", c.Did())
	}
}

// A page that was written with bytes 255 alone is one that is erased.
func TestProgramErasedBytes(t *testing.T) {
	c := chip(t, api.Faults{})
	is(t, "bytes 255", program(c, 4, 2, erased), api.OK)
	holds(t, c, 4, 2, erased)
	is(t, "ahead of it", program(c, 4, 1, letter), api.OK)
	is(t, "it", program(c, 4, 2, letter), api.OK)
	for i := range pageLen {
		c.Erase(5)
		is(t, "all but one byte 255", program(c, 5, 0, erased[:i]+"\xfe"+erased[i+1:]), api.OK)
		is(t, "it again", program(c, 5, 0, letter), api.ErrUse)
	}
}

func TestProgramLength(t *testing.T) {
	c := chip(t, api.Faults{})
	data, spare := letter[:64], letter[64:]
	for _, x := range []struct{ data, spare string }{
		{"", ""}, {data, ""}, {"", spare}, {data[1:], spare}, {data, spare[1:]}, {data + "a", spare}, {data, spare + "a"},
		{data[1:], spare + "a"}, {data + "a", spare[1:]}, {spare, data}, {data + spare, ""},
	} {
		is(t, "length", c.Program(0, 0, x.data, x.spare), api.ErrInput)
	}
	holds(t, c, 0, 0, erased)
	if c.Did() != 0 {
		t.Errorf("did %d", c.Did())
	}
	is(t, "page", program(c, 0, 0, apart), api.OK)
	is(t, "length ahead of use", c.Program(0, 0, data, ""), api.ErrInput)
	is(t, "address ahead of length", c.Program(0, 4, data, ""), api.ErrAddress)
}

// all does each thing that may be refused, with a block and a page.
func all(c *Chip, b, p int) []api.Errno {
	data, spare, read := c.Read(b, p)
	if data != "" || spare != "" {
		read = -1
	}
	marked, asked := c.Marked(b)
	if marked {
		asked = -1
	}
	return []api.Errno{read, program(c, b, p, letter), c.Program(b, p, "", ""), c.Erase(b), c.Mark(b), asked}
}

func TestAddress(t *testing.T) {
	c := chip(t, api.Faults{Bad: []int{7}})
	for _, b := range []int{-1, 8, 9, math.MinInt, math.MaxInt} {
		for _, err := range all(c, b, 0) {
			is(t, "no such block", err, api.ErrAddress)
		}
	}
	for _, p := range []int{-1, 4, 5, math.MinInt, math.MaxInt} {
		for _, err := range all(c, 1, p)[:3] {
			is(t, "no such page", err, api.ErrAddress)
		}
	}
	if c.Did() != 10 || c.Worn()[1] != 5 { // the Erase and the Mark of a block that there is, five times
		t.Errorf("did %d, worn %v", c.Did(), c.Worn())
	}
}

func TestOff(t *testing.T) {
	c := chip(t, api.Faults{Cuts: []api.Cut{{At: 2}}})
	is(t, "page", program(c, 0, 0, apart), api.OK)
	is(t, "cut", c.Mark(3), api.ErrOff)
	for _, b := range []int{-1, 0, 3, 8} { // ahead of the address, too
		for _, p := range []int{-1, 0, 3, 4} {
			for _, err := range all(c, b, p) {
				is(t, "no power", err, api.ErrOff)
			}
		}
	}
	if !c.Off() || c.Did() != 2 || c.Worn()[0] != 0 || c.Geometry() != small {
		t.Errorf("%v %d %v %v", c.Off(), c.Did(), c.Worn(), c.Geometry())
	}
	c.Power()
	holds(t, c, 0, 0, apart)
	is(t, "with power", c.Erase(0), api.OK)
	if c.Off() || c.Did() != 3 {
		t.Errorf("%v %d", c.Off(), c.Did())
	}
	c.Power()
	if c.Off() || c.Did() != 3 {
		t.Errorf("power twice: %v %d", c.Off(), c.Did())
	}
}

func TestNil(t *testing.T) {
	var c *Chip
	c.Arm(api.Faults{Cuts: []api.Cut{{At: 1}}})
	c.Power()
	for _, b := range []int{-1, 0, 8} {
		for _, err := range all(c, b, b) {
			is(t, "nil", err, api.ErrInput)
		}
	}
	if c.Geometry() != (api.Geometry{}) || !c.Off() || c.Did() != 0 || len(c.Worn()) != 0 || len(c.Dead()) != 0 {
		t.Error("nil is something")
	}
}

// A chip that New did not make has no block.
func TestZero(t *testing.T) {
	c := &Chip{}
	for _, err := range all(c, 0, 0) {
		is(t, "no blocks", err, api.ErrAddress)
	}
	c.Arm(api.Faults{Fails: []int{1}, Cuts: []api.Cut{{At: 1}}})
	c.Power()
	for _, err := range all(c, 0, 0) {
		is(t, "no blocks", err, api.ErrAddress)
	}
	if c.Geometry() != (api.Geometry{}) || c.Off() || c.Did() != 0 || len(c.Worn()) != 0 || len(c.Dead()) != 0 {
		t.Error("it is something")
	}
}

func TestErase(t *testing.T) {
	c := chip(t, api.Faults{})
	for p := range 4 {
		is(t, "page", program(c, 3, p, apart), api.OK)
		is(t, "page", program(c, 4, p, letter), api.OK)
	}
	c.Mark(3)
	is(t, "erase", c.Erase(3), api.OK)
	for p := range 4 {
		holds(t, c, 3, p, erased)
		holds(t, c, 4, p, letter)
	}
	if marked, _ := c.Marked(3); !marked {
		t.Error("the mark is gone")
	}
	is(t, "page again", program(c, 3, 0, letter), api.OK)
	holds(t, c, 3, 0, letter)
	is(t, "erase again", c.Erase(3), api.OK)
	is(t, "erase again", c.Erase(3), api.OK)
	is(t, "erase another", c.Erase(7), api.OK)
	if want := []int{0, 0, 0, 3, 0, 0, 0, 1}; !slices.Equal(c.Worn(), want) {
		t.Errorf("worn %v, want %v", c.Worn(), want)
	}
	if c.Did() != 8+1+1+1+3 {
		t.Errorf("did %d", c.Did())
	}
}

func TestMark(t *testing.T) {
	c := chip(t, api.Faults{})
	is(t, "page", program(c, 5, 0, apart), api.OK)
	is(t, "mark", c.Mark(5), api.OK)
	is(t, "mark again", c.Mark(5), api.OK)
	for b := range 8 {
		if marked, err := c.Marked(b); marked != (b == 5) || err != api.OK {
			t.Errorf("block %d: %v %d", b, marked, err)
		}
	}
	if c.Did() != 3 || slices.Contains(c.Dead(), true) || c.Worn()[5] != 0 {
		t.Errorf("did %d, dead %v, worn %v", c.Did(), c.Dead(), c.Worn())
	}
	holds(t, c, 5, 0, apart)
	is(t, "a marked block is written", program(c, 5, 1, letter), api.OK)
	is(t, "and erased", c.Erase(5), api.OK)
}

func TestCutInProgram(t *testing.T) {
	for _, x := range []struct {
		keep int
		fill byte
		want string
	}{
		{math.MinInt, 7, strings.Repeat("\x07", pageLen)},
		{-1, 7, strings.Repeat("\x07", pageLen)},
		{0, 7, strings.Repeat("\x07", pageLen)},
		{1, 7, apart[:1] + strings.Repeat("\x07", pageLen-1)},
		{63, 0, apart[:63] + strings.Repeat("\x00", pageLen-63)},
		{64, 255, apart[:64] + strings.Repeat("\xff", pageLen-64)},
		{65, 128, apart[:65] + strings.Repeat("\x80", pageLen-65)},
		{95, 7, apart[:95] + "\x07"},
		{96, 7, apart},
		{97, 7, apart},
		{math.MaxInt, 7, apart},
	} {
		c := chip(t, api.Faults{Cuts: []api.Cut{{At: 2, Keep: x.keep, Fill: x.fill}}})
		is(t, "ahead", program(c, 1, 0, letter), api.OK)
		is(t, "cut", program(c, 1, 1, apart), api.ErrOff)
		if !c.Off() || c.Did() != 2 || c.Dead()[1] {
			t.Errorf("keep %d: %v %d %v", x.keep, c.Off(), c.Did(), c.Dead())
		}
		c.Power()
		holds(t, c, 1, 0, letter)
		holds(t, c, 1, 1, x.want)
		holds(t, c, 1, 2, erased)
		holds(t, c, 0, 1, erased)
		is(t, "written", program(c, 1, 1, apart), api.ErrUse)
		is(t, "behind", program(c, 1, 2, apart), api.OK)
	}
}

// A cut may leave a page erased: nothing is kept, and the rest is 255.
func TestCutInProgramLeavesErased(t *testing.T) {
	c := chip(t, api.Faults{Cuts: []api.Cut{{At: 1, Keep: 0, Fill: 255}}})
	is(t, "cut", program(c, 1, 1, apart), api.ErrOff)
	c.Power()
	holds(t, c, 1, 1, erased)
	is(t, "again", program(c, 1, 1, letter), api.OK)
	holds(t, c, 1, 1, letter)
}

func TestCutInErase(t *testing.T) {
	seven := strings.Repeat("\x07", pageLen)
	for _, x := range []struct {
		keep int
		want []string
	}{
		{math.MinInt, []string{"p", "p", "p", "p"}},
		{-1, []string{"p", "p", "p", "p"}},
		{0, []string{seven, "p", "p", "p"}},
		{1, []string{erased, seven, "p", "p"}},
		{3, []string{erased, erased, erased, seven}},
		{4, []string{erased, erased, erased, erased}},
		{5, []string{erased, erased, erased, erased}},
		{math.MaxInt, []string{erased, erased, erased, erased}},
	} {
		c := chip(t, api.Faults{Cuts: []api.Cut{{At: 9, Keep: x.keep, Fill: 7}}})
		for p := range 4 {
			program(c, 2, p, apart[p:]+apart[:p])
			program(c, 3, p, letter)
		}
		is(t, "cut", c.Erase(2), api.ErrOff)
		if !c.Off() || c.Did() != 9 || c.Worn()[2] != 1 || c.Dead()[2] {
			t.Errorf("keep %d: %v %d %v %v", x.keep, c.Off(), c.Did(), c.Worn(), c.Dead())
		}
		c.Power()
		for p, want := range x.want {
			if want == "p" {
				want = apart[p:] + apart[:p]
			}
			holds(t, c, 2, p, want)
			holds(t, c, 3, p, letter)
		}
		is(t, "erase", c.Erase(2), api.OK)
		for p := range 4 {
			holds(t, c, 2, p, erased)
		}
	}
}

// A page that a cut in an Erase fills with 255 is erased, and can be written when those behind it are, too.
func TestCutInEraseLeavesErased(t *testing.T) {
	c := chip(t, api.Faults{Cuts: []api.Cut{{At: 2, Keep: 1, Fill: 255}}})
	program(c, 2, 1, apart)
	is(t, "cut", c.Erase(2), api.ErrOff)
	c.Power()
	is(t, "page", program(c, 2, 0, letter), api.OK)
}

func TestCutInMark(t *testing.T) {
	for _, x := range []struct {
		keep int
		want bool
	}{{math.MinInt, false}, {-1, false}, {0, false}, {1, true}, {2, true}, {math.MaxInt, true}} {
		c := chip(t, api.Faults{Cuts: []api.Cut{{At: 1, Keep: x.keep, Fill: 7}}, Bad: []int{6}})
		is(t, "cut", c.Mark(2), api.ErrOff)
		if !c.Off() || c.Did() != 1 {
			t.Errorf("keep %d: %v %d", x.keep, c.Off(), c.Did())
		}
		c.Power()
		for b := range 8 {
			if marked, err := c.Marked(b); marked != (b == 6 || b == 2 && x.want) || err != api.OK {
				t.Errorf("keep %d: block %d: %v %d", x.keep, b, marked, err)
			}
		}
		holds(t, c, 2, 0, erased)
	}
	c := chip(t, api.Faults{Cuts: []api.Cut{{At: 1}}, Bad: []int{6}})
	is(t, "cut", c.Mark(6), api.ErrOff)
	c.Power()
	if marked, _ := c.Marked(6); !marked {
		t.Error("a cut takes the mark away")
	}
}

func TestSeveralCuts(t *testing.T) {
	c := chip(t, api.Faults{Cuts: []api.Cut{
		{At: 3, Keep: 1, Fill: 3}, {At: 2, Keep: 2, Fill: 1}, {At: 2, Keep: 5, Fill: 2}, {At: 0, Fill: 9}, {At: -1, Fill: 9}, {At: 3, Keep: 9, Fill: 9},
	}})
	is(t, "1", program(c, 0, 0, apart), api.OK)
	is(t, "2", program(c, 0, 1, apart), api.ErrOff)
	is(t, "no power", program(c, 0, 2, apart), api.ErrOff)
	c.Power()
	is(t, "3", program(c, 0, 2, apart), api.ErrOff)
	c.Power()
	is(t, "4", program(c, 0, 3, apart), api.OK)
	holds(t, c, 0, 1, apart[:2]+strings.Repeat("\x01", pageLen-2))
	holds(t, c, 0, 2, apart[:1]+strings.Repeat("\x03", pageLen-1))
	holds(t, c, 0, 3, apart)
	if c.Did() != 4 {
		t.Errorf("did %d", c.Did())
	}
}

// What is refused is no action: the fault waits for the next one that is.
func TestRefusedIsNoAction(t *testing.T) {
	c := chip(t, api.Faults{Fails: []int{2}, Cuts: []api.Cut{{At: 3, Keep: 1}}})
	is(t, "1", program(c, 0, 0, apart), api.OK)
	is(t, "address", program(c, 8, 0, apart), api.ErrAddress)
	is(t, "address", c.Erase(-1), api.ErrAddress)
	is(t, "address", c.Mark(8), api.ErrAddress)
	is(t, "length", c.Program(0, 1, "", ""), api.ErrInput)
	is(t, "use", program(c, 0, 0, apart), api.ErrUse)
	c.Read(0, 0)
	c.Marked(0)
	if c.Did() != 1 {
		t.Errorf("did %d", c.Did())
	}
	is(t, "2", c.Erase(0), api.ErrErase)
	is(t, "3", c.Mark(1), api.ErrOff)
	is(t, "off", c.Erase(1), api.ErrOff)
	if c.Did() != 3 {
		t.Errorf("did %d", c.Did())
	}
}

func TestFailInProgram(t *testing.T) {
	c := chip(t, api.Faults{Fails: []int{2, 2, -1, 0}})
	is(t, "1", program(c, 5, 0, apart), api.OK)
	is(t, "2", program(c, 5, 1, apart), api.ErrProgram)
	if c.Off() || c.Did() != 2 || !slices.Equal(c.Dead(), []bool{5: true, 7: false}) {
		t.Errorf("%v %d %v", c.Off(), c.Did(), c.Dead())
	}
	if marked, err := c.Marked(5); marked || err != api.OK {
		t.Error("worn out is not marked")
	}
	holds(t, c, 5, 0, apart)
	holds(t, c, 5, 1, zeros)
	holds(t, c, 5, 2, erased)
	is(t, "written", program(c, 5, 1, apart), api.ErrUse)
	is(t, "worn out", program(c, 5, 2, erased), api.ErrProgram)
	is(t, "worn out", c.Erase(5), api.ErrErase)
	holds(t, c, 5, 0, apart)
	holds(t, c, 5, 2, zeros)
	holds(t, c, 5, 3, erased)
	if c.Did() != 4 || c.Worn()[5] != 1 {
		t.Errorf("did %d, worn %v", c.Did(), c.Worn())
	}
	is(t, "another block", program(c, 4, 0, apart), api.OK)
	is(t, "mark", c.Mark(5), api.OK)
	if marked, _ := c.Marked(5); !marked {
		t.Error("no mark on a block that is worn out")
	}
}

func TestFailInErase(t *testing.T) {
	c := chip(t, api.Faults{Fails: []int{3}})
	program(c, 5, 0, apart)
	is(t, "2", c.Erase(4), api.OK)
	is(t, "3", c.Erase(5), api.ErrErase)
	if c.Off() || c.Did() != 3 || !slices.Equal(c.Dead(), []bool{5: true, 7: false}) || !slices.Equal(c.Worn(), []int{4: 1, 5: 1, 7: 0}) {
		t.Errorf("%v %d %v %v", c.Off(), c.Did(), c.Dead(), c.Worn())
	}
	holds(t, c, 5, 0, apart)
	is(t, "worn out", program(c, 5, 1, letter), api.ErrProgram)
	is(t, "worn out", c.Erase(5), api.ErrErase)
	is(t, "another block", c.Erase(4), api.OK)
	holds(t, c, 5, 0, apart)
	holds(t, c, 5, 1, zeros)
	if c.Worn()[5] != 2 {
		t.Errorf("worn %v", c.Worn())
	}
}

// No block is worn out by a Mark, whichever action it is.
func TestFailInMark(t *testing.T) {
	c := chip(t, api.Faults{Fails: []int{1}})
	is(t, "mark", c.Mark(5), api.OK)
	if marked, err := c.Marked(5); !marked || err != api.OK || slices.Contains(c.Dead(), true) || c.Did() != 1 {
		t.Errorf("%v %d %v %d", marked, err, c.Dead(), c.Did())
	}
	is(t, "page", program(c, 5, 0, letter), api.OK)
}

// A cut is asked ahead of all that fails: it leaves what it leaves elsewhere, and wears nothing out.
func TestCutAheadOfFail(t *testing.T) {
	c := chip(t, api.Faults{Bad: []int{0}, Fails: []int{1, 2}, Cuts: []api.Cut{{At: 1, Keep: 2}, {At: 2, Keep: 4}, {At: 3, Keep: 1}, {At: 4, Keep: 1, Fill: 8}}})
	for _, do := range []func() api.Errno{
		func() api.Errno { return program(c, 1, 0, apart) },
		func() api.Errno { return c.Erase(1) },
		func() api.Errno { return program(c, 0, 1, apart) },
		func() api.Errno { return c.Erase(0) },
	} {
		is(t, "cut", do(), api.ErrOff)
		if !c.Off() {
			t.Error("it has power")
		}
		c.Power()
	}
	if !slices.Equal(c.Dead(), []bool{0: true, 7: false}) || !slices.Equal(c.Worn(), []int{0: 1, 1: 1, 7: 0}) {
		t.Errorf("%v %v", c.Dead(), c.Worn())
	}
	holds(t, c, 1, 0, erased)
	holds(t, c, 0, 0, erased)
	holds(t, c, 0, 1, strings.Repeat("\x08", pageLen))
}

func TestBad(t *testing.T) {
	c := chip(t, api.Faults{Bad: []int{6, 0, 6, -1, 8, math.MaxInt, math.MinInt}})
	for b := range 8 {
		bad := b == 0 || b == 6
		if marked, err := c.Marked(b); marked != bad || err != api.OK || c.Dead()[b] != bad {
			t.Errorf("block %d: %v %d %v", b, marked, err, c.Dead())
		}
		holds(t, c, b, 0, erased)
	}
	is(t, "page", program(c, 6, 0, letter), api.ErrProgram)
	is(t, "erase", c.Erase(6), api.ErrErase)
	holds(t, c, 6, 0, zeros)
	if c.Did() != 2 || c.Worn()[6] != 1 {
		t.Errorf("did %d, worn %v", c.Did(), c.Worn())
	}
}

func TestArm(t *testing.T) {
	c := chip(t, api.Faults{Cuts: []api.Cut{{At: 3}, {At: 5}}, Fails: []int{2, 4}, Bad: []int{1}})
	is(t, "1", program(c, 0, 0, apart), api.OK)
	is(t, "2", program(c, 2, 0, apart), api.ErrProgram)
	is(t, "3", c.Erase(3), api.ErrOff)
	c.Arm(api.Faults{Cuts: []api.Cut{{At: 2, Keep: 1}}, Fails: []int{1}, Bad: []int{4}})
	if !c.Off() || c.Did() != 0 || c.Worn()[3] != 1 || !slices.Equal(c.Dead(), []bool{1: true, 2: true, 7: false}) {
		t.Errorf("%v %d %v %v", c.Off(), c.Did(), c.Worn(), c.Dead())
	}
	c.Power()
	holds(t, c, 0, 0, apart)
	for b := range 8 {
		if marked, _ := c.Marked(b); marked != (b == 1) {
			t.Errorf("block %d: %v", b, marked)
		}
	}
	is(t, "1", c.Erase(5), api.ErrErase)
	is(t, "2", c.Mark(6), api.ErrOff)
	c.Power()
	for n := 3; n <= 6; n++ {
		is(t, "no more", c.Erase(0), api.OK)
	}
	c.Arm(api.Faults{})
	for n := 1; n <= 6; n++ {
		is(t, "nothing", c.Erase(0), api.OK)
	}
	is(t, "worn out for good", c.Erase(5), api.ErrErase)
	if c.Did() != 7 || c.Worn()[0] != 10 {
		t.Errorf("%d %v", c.Did(), c.Worn())
	}
}

// What is handed in may be changed later, and what is answered is the caller's own.
func TestOwn(t *testing.T) {
	f := api.Faults{Cuts: []api.Cut{{At: 2, Keep: 1}}, Fails: []int{1}, Bad: []int{3}}
	c := chip(t, f)
	f.Cuts[0], f.Fails[0], f.Bad[0] = api.Cut{At: 1}, 2, 4
	is(t, "1", c.Erase(0), api.ErrErase)
	is(t, "2", c.Mark(0), api.ErrOff)
	c.Power()
	f.Cuts[0].At, f.Fails[0] = 2, 1
	c.Arm(f)
	f.Cuts[0], f.Fails[0] = api.Cut{At: 1}, 2
	is(t, "armed 1", c.Erase(1), api.ErrErase)
	is(t, "armed 2", c.Mark(0), api.ErrOff)
	c.Power()
	worn, dead := c.Worn(), c.Dead()
	is(t, "erase", c.Erase(1), api.ErrErase)
	if worn[1] != 1 {
		t.Error("a count that was told rises")
	}
	worn[1], dead[2], dead[0] = 9, true, false
	if !slices.Equal(c.Worn(), []int{0: 1, 1: 2, 7: 0}) || !slices.Equal(c.Dead(), []bool{0: true, 1: true, 3: true, 7: false}) {
		t.Errorf("%v %v", c.Worn(), c.Dead())
	}
}
