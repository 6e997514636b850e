package ftl

import (
	"slices"
	"strings"
	"testing"

	"tinderbox/api"
	"tinderbox/ckpt"
	"tinderbox/group"
	"tinderbox/life"
	"tinderbox/nand"
	"tinderbox/page"
	"tinderbox/scan"
	"tinderbox/write"
)

var (
	usual  = api.Geometry{Blocks: 16, Pages: 8, Size: 64}
	tooFew = api.Geometry{Blocks: 8, Pages: 4, Size: 64} // a chip, but one without room
)

// hand writes pages on a chip by hand.
type hand struct {
	t    *testing.T
	chip *nand.Chip
	*write.Writer
	seq uint64
}

func byHand(t *testing.T, g api.Geometry, f api.Faults) *hand {
	t.Helper()
	c, e := nand.New(g, f)
	if e != api.OK {
		t.Fatal(e)
	}
	l, _ := life.New(g.Blocks, g.Pages)
	for _, b := range f.Bad {
		l.Bad(b)
	}
	w, e := write.New(c, l, make([]int, g.Blocks))
	if e != api.OK {
		t.Fatal(e)
	}
	return &hand{t, c, w, 1}
}

// data writes a page of data: where it stands.
func (h *hand) data(text string) int {
	h.t.Helper()
	at, e := h.Append(api.Tag{Kind: api.PageData, Seq: h.seq, Of: 1}, text)
	if e != api.OK {
		h.t.Fatal(e)
	}
	h.seq++
	return at
}

// waste writes so many pages at which nothing stands.
func (h *hand) waste(n int) {
	h.t.Helper()
	for range n {
		h.data("waste")
	}
}

// tell writes records.
func (h *hand) tell(kind int, l ...api.Record) []int {
	h.t.Helper()
	at, next, e := ckpt.Write(h.Writer, l, kind, h.seq, h.chip.Geometry().Size)
	if e != api.OK {
		h.t.Fatal(e)
	}
	h.seq = next
	return at
}

func (h *hand) mount() *FTL {
	h.t.Helper()
	f, e := Mount(h.chip)
	if e != api.OK || f == nil {
		h.t.Fatal(e)
	}
	return f
}

func wantRead(t *testing.T, f *FTL, space, page int, want string) {
	t.Helper()
	if s, is, e := f.Read(space, page); e != api.OK || !is || s != want {
		t.Error("page", page, "of", space, "says", s, is, e, "want", want)
	}
}

func wantNone(t *testing.T, f *FTL, space, page int) {
	t.Helper()
	if s, is, e := f.Read(space, page); e != api.OK || is || s != "" {
		t.Error("page", page, "of", space, "says", s, is, e)
	}
}

// journalOf is all records of the journal's pages, in the order of writing.
func journalOf(t *testing.T, c *nand.Chip) []api.Record {
	t.Helper()
	all, e := scan.All(c)
	if e != api.OK {
		t.Fatal(e)
	}
	all = slices.DeleteFunc(all, func(x api.Found) bool { return x.Tag.Kind != api.PageJournal })
	slices.SortFunc(all, func(a, b api.Found) int { return int(a.Tag.Seq) - int(b.Tag.Seq) })
	l, e := group.Unpack(ckpt.Texts(all)...)
	if e != api.OK {
		t.Fatal(e)
	}
	return l
}

// plainRoom reckons the room with the chapter's words.
func plainRoom(g api.Geometry) api.Room {
	if g.Blocks < 8 || g.Blocks > 32 || g.Pages < 4 || g.Pages > 16 || g.Size < 64 || g.Size > 256 {
		return api.Room{}
	}
	up := func(b int) int {
		n := 0
		for ; b > 0; b -= g.Size - 8 {
			n++
		}
		return n
	}
	reserve := func(n int) int {
		return 2*g.Pages + 2*up(18*n+135+11*g.Blocks) + 2*up(72+11*g.Blocks) + 8
	}
	room := api.Room{Spare: g.Blocks / 8}
	for n := 1; 2*n+reserve(n)+8 <= (g.Blocks-room.Spare)*g.Pages-g.Pages; n++ {
		room.Places = n
	}
	room.Keys, room.Reserve = 2*room.Places, reserve(room.Places)
	return room
}

func TestRoomOf(t *testing.T) {
	for g, want := range map[api.Geometry]api.Room{
		usual:                              {Places: 19, Keys: 38, Reserve: 58, Spare: 2},
		{Blocks: 8, Pages: 16, Size: 64}:   {Places: 12, Keys: 24, Reserve: 62, Spare: 1},
		{Blocks: 32, Pages: 16, Size: 256}: {Places: 175, Keys: 350, Reserve: 74, Spare: 4},
		{Blocks: 17, Pages: 4, Size: 65}:   {Places: 4, Keys: 8, Reserve: 40, Spare: 2},
		tooFew:                             {Reserve: 30, Spare: 1},
		{}:                                 {},
		{Blocks: 33, Pages: 8, Size: 64}:   {},
		{Blocks: 16, Pages: 17, Size: 64}:  {},
		{Blocks: 16, Pages: 8, Size: 63}:   {},
	} {
		if got := RoomOf(g); got != want {
			t.Error(g, got, "want", want)
		}
	}
}

func TestRoomOfAllChips(t *testing.T) {
	for blocks := -1; blocks <= api.MostBlocks+1; blocks++ {
		for pages := -1; pages <= api.MostPages+1; pages++ {
			for size := api.LeastSize - 1; size <= api.MostSize+1; size++ {
				g := api.Geometry{Blocks: blocks, Pages: pages, Size: size}
				want := plainRoom(g)
				if got := RoomOf(g); got != want || Check(g) != (want.Places >= 4) {
					t.Fatal(g, got, Check(g), "want", want)
				}
			}
		}
	}
}

func TestCheck(t *testing.T) {
	for g, want := range map[api.Geometry]bool{
		usual:                             true,
		{Blocks: 12, Pages: 4, Size: 192}: true,  // 4 places
		{Blocks: 12, Pages: 4, Size: 128}: false, // 3 places
		tooFew:                            false,
		{}:                                false,
		{Blocks: 33, Pages: 8, Size: 64}:  false,
	} {
		if got := Check(g); got != want {
			t.Error(g, got, RoomOf(g))
		}
	}
}

func TestChipsThatMayNotBeUsed(t *testing.T) {
	few, _ := nand.New(tooFew, api.Faults{Cuts: []api.Cut{{At: 1}}})
	for name, c := range map[string]*nand.Chip{"nil": nil, "none": {}, "few": few} {
		if f, e := Format(c); f != nil || e != api.ErrInput {
			t.Error(name, f, e)
		}
		if f, e := Mount(c); f != nil || e != api.ErrInput {
			t.Error(name, f, e)
		}
	}
	few.Erase(0)
	if f, e := Format(few); f != nil || e != api.ErrInput || !few.Off() {
		t.Error("without power", f, e)
	}
	if f, e := Mount(few); f != nil || e != api.ErrInput {
		t.Error("without power", f, e)
	}
}

func TestChipsWithoutPower(t *testing.T) {
	c, _ := nand.New(usual, api.Faults{Cuts: []api.Cut{{At: 1}}})
	c.Erase(0)
	if f, e := Format(c); f != nil || e != api.ErrOff {
		t.Error(f, e)
	}
	if f, e := Mount(c); f != nil || e != api.ErrOff {
		t.Error(f, e)
	}
}

func TestFormat(t *testing.T) {
	c, _ := nand.New(usual, api.Faults{})
	f, e := Format(c)
	if e != api.OK || f == nil {
		t.Fatal(e)
	}
	if !slices.Equal(c.Worn(), slices.Repeat([]int{1}, usual.Blocks)) {
		t.Error(c.Worn())
	}
	if f.Tells() != 0 || f.Room() != RoomOf(usual) || len(f.State().Spaces()) != 0 || f.State().Bads() != 0 {
		t.Error(f.Tells(), f.Room(), f.State().Spaces(), f.State().Bads())
	}
	// What is left of the chip is the checkpoint.
	all, _ := scan.All(c)
	m, e := scan.Rebuild(all)
	if e != api.OK || len(m.State().Spaces()) != 0 || m.State().Worn(3) != 1 {
		t.Fatal(e)
	}
	if n := usual.Blocks*usual.Pages - len(m.Meta()); len(m.Meta()) == 0 || f.Free() != n || c.Did() != usual.Blocks+len(m.Meta()) {
		t.Error(f.Free(), "want", n, "did", c.Did())
	}
	for _, x := range all {
		if x.Class != api.ClassErased && (x.Class != api.ClassValid || x.Tag.Kind != api.PageCheck) {
			t.Error(x)
		}
	}
}

func TestFormatErasesWhatIsNotMarked(t *testing.T) {
	h := byHand(t, usual, api.Faults{})
	h.tell(api.PageCheck, api.Record{Kind: api.RecMake, Space: 1, N: 9}, api.Record{Kind: api.RecBad, At: 7})
	at := h.data("gone")
	h.tell(api.PageJournal, api.Record{Kind: api.RecPut, Space: 1, At: at})
	h.waste(usual.Blocks*usual.Pages - 3)
	h.chip.Mark(5)
	was := pagesOfBlock(h.chip, 5)
	f, e := Format(h.chip)
	if e != api.OK {
		t.Fatal(e)
	}
	want := slices.Repeat([]int{1}, usual.Blocks)
	want[5] = 0
	if !slices.Equal(h.chip.Worn(), want) || !slices.Equal(pagesOfBlock(h.chip, 5), was) {
		t.Error("erased", h.chip.Worn())
	}
	// Block 7 was told as bad, but it is not marked.
	if s := f.State(); len(s.Spaces()) != 0 || !s.Bad(5) || s.Bads() != 1 {
		t.Error(s.Spaces(), s.Bads())
	}
	if f.Free() < (usual.Blocks-2)*usual.Pages {
		t.Error(f.Free())
	}
	m := h.mount()
	if s := m.State(); len(s.Spaces()) != 0 || !s.Bad(5) || s.Bads() != 1 {
		t.Error(s.Spaces(), s.Bads())
	}
}

func pagesOfBlock(c *nand.Chip, b int) []string {
	var l []string
	for p := range c.Geometry().Pages {
		data, spare, _ := c.Read(b, p)
		l = append(l, data+spare)
	}
	return l
}

// What a bad block says can't be erased: it must never be the newest again.
func TestFormatIsNewerThanBadBlocks(t *testing.T) {
	h := byHand(t, usual, api.Faults{})
	h.seq = 1 << 40
	h.tell(api.PageCheck, api.Record{Kind: api.RecMake, Space: 1, N: 9})
	h.tell(api.PageJournal, api.Record{Kind: api.RecMake, Space: 2, N: 9})
	h.chip.Mark(0)
	f, e := Format(h.chip)
	if e != api.OK {
		t.Fatal(e)
	}
	if e := f.Commit([]api.Change{mk(3, 1)}); e != api.OK {
		t.Fatal(e)
	}
	l := h.mount().State().Spaces()
	if len(l) != 1 || l[0].ID != 3 {
		t.Error(l)
	}
}

func TestFormatOfWornChips(t *testing.T) {
	bad := func(n int) api.Faults { return api.Faults{Bad: []int{3, 4, 15}[:n]} }
	for name, x := range map[string]struct {
		faults api.Faults
		want   api.Errno
	}{
		"as many as may be":             {bad(2), api.OK},
		"one too much":                  {bad(3), api.ErrWorn},
		"all":                           {api.Faults{Bad: []int{0, 1, 2, 3, 4, 5, 6, 7, 8, 9, 10, 11, 12, 13, 14, 15}}, api.ErrWorn},
		"two erasures fail":             {api.Faults{Fails: []int{1, 5}}, api.OK},
		"three erasures fail":           {api.Faults{Fails: []int{1, 5, 8}}, api.ErrWorn},
		"two, and the first page fails": {api.Faults{Bad: []int{3, 4}, Fails: []int{15}}, api.ErrWorn},
		"two, and the last page fails":  {api.Faults{Bad: []int{3, 4}, Fails: []int{16}}, api.ErrWorn},
	} {
		c, _ := nand.New(usual, x.faults)
		f, e := Format(c)
		if e != x.want || (f == nil) != (e != api.OK) {
			t.Error(name, e, "want", x.want)
		}
	}
}

func TestFormatOfBlocksThatFail(t *testing.T) {
	c, _ := nand.New(usual, api.Faults{Fails: []int{3, 18}})
	f, e := Format(c)
	if e != api.OK {
		t.Fatal(e)
	}
	if s := f.State(); !s.Bad(2) || s.Bads() != 2 {
		t.Error(s.Bads())
	}
	for range 2 {
		if e := f.Commit([]api.Change{mk(1, 3), put(1, 0, "x"), drop(1)}); e != api.OK {
			t.Fatal(e)
		}
		if f, e = Mount(c); e != api.OK || f.State().Bads() != 2 {
			t.Fatal(e, f.State().Bads())
		}
	}
}

func TestPowerFailsInFormat(t *testing.T) {
	for at := 1; ; at++ {
		c, _ := nand.New(usual, api.Faults{Cuts: []api.Cut{{At: at, Keep: at}}})
		f, e := Format(c)
		if e == api.OK {
			if at < usual.Blocks+2 {
				t.Error("it took", at, "actions")
			}
			return
		}
		if f != nil || e != api.ErrOff {
			t.Fatal(at, f, e)
		}
		c.Power()
		if _, e := Format(c); e != api.OK {
			t.Fatal(at, e)
		}
	}
}

// However often a chip is formatted, it is known how often its blocks were erased.
func TestFormatKnowsErasures(t *testing.T) {
	c, _ := nand.New(usual, api.Faults{})
	for range 5 {
		if _, e := Format(c); e != api.OK {
			t.Fatal(e)
		}
	}
	f, _ := Mount(c)
	for b, n := range c.Worn() {
		if n != 5 || f.State().Worn(b) != n {
			t.Error(b, n, f.State().Worn(b))
		}
	}
}

func TestMountOfNothing(t *testing.T) {
	c, _ := nand.New(usual, api.Faults{})
	if f, e := Mount(c); f != nil || e != api.ErrBlank {
		t.Error(f, e)
	}
	h := byHand(t, usual, api.Faults{})
	h.tell(api.PageJournal, api.Record{Kind: api.RecMake, Space: 1, N: 9})
	if f, e := Mount(h.chip); f != nil || e != api.ErrBlank {
		t.Error(f, e)
	}
	h.tell(api.PageCheck)
	h.tell(api.PageJournal, api.Record{Kind: api.RecSeal, Space: 1})
	if f, e := Mount(h.chip); f != nil || e != api.ErrSpace {
		t.Error(f, e)
	}
}

func TestMountHasWhatIsFound(t *testing.T) {
	h := byHand(t, usual, api.Faults{})
	h.waste(3)
	first := h.data("first")
	h.tell(api.PageCheck, api.Record{Kind: api.RecMake, Space: 1, N: 9}, api.Record{Kind: api.RecPut, Space: 1, Page: 8, At: first})
	second := h.data("second")
	h.tell(api.PageJournal, api.Record{Kind: api.RecPut, Space: 1, Page: 2, At: second}, api.Record{Kind: api.RecSeal, Space: 1})
	h.tell(api.PageJournal, api.Record{Kind: api.RecCopy, Space: 1, To: 4})
	f := h.mount()
	if h.chip.Did() != 8 || f.Tells() != 2 || f.Room() != RoomOf(usual) {
		t.Error(h.chip.Did(), f.Tells(), f.Room())
	}
	want := []api.Space{{ID: 1, Quota: 9, Pages: 2, Sealed: true}, {ID: 4, Quota: 9, Pages: 2}}
	if got := f.State().Spaces(); !slices.Equal(got, want) {
		t.Error(got)
	}
	wantRead(t, f, 1, 8, "first")
	wantRead(t, f, 1, 2, "second")
	wantRead(t, f, 4, 8, "first")
	wantRead(t, f, 4, 2, "second")
	wantNone(t, f, 1, 0)
	wantNone(t, f, 2, 2)
	// What is written now is behind all that is there.
	if e := f.Commit([]api.Change{drop(1)}); e != api.OK {
		t.Fatal(e)
	}
	if got := h.mount().State().Spaces(); len(got) != 1 || got[0] != want[1] {
		t.Error(got)
	}
}

func TestMountTellsWhatBlocksAre(t *testing.T) {
	h := byHand(t, usual, api.Faults{})
	h.tell(api.PageCheck, api.Record{Kind: api.RecMake, Space: 1, N: 9}, api.Record{Kind: api.RecBad, At: 3})
	torn := strings.Repeat("\x00", usual.Size)
	h.chip.Program(1, 7, torn, strings.Repeat("\x00", api.SpareLen)) // its last page alone is not erased
	h.chip.Mark(2)
	did := h.chip.Did()
	f := h.mount()
	if marked, _ := h.chip.Marked(3); !marked || h.chip.Did() != did+1 {
		t.Error("marked", marked, h.chip.Did()-did)
	}
	// Blocks 0 and 1 are full, 2 and 3 bad.
	if got, want := f.Free(), (usual.Blocks-4)*usual.Pages; got != want {
		t.Error("free", got, "want", want)
	}
	if s := f.State(); s.Bads() != 2 || !s.Bad(2) || !s.Bad(3) {
		t.Error(s.Bads())
	}
	if e := f.Commit([]api.Change{put(1, 0, "x")}); e != api.OK {
		t.Fatal(e)
	}
	if at, _ := f.State().Get(1, 0); at != 4*usual.Pages {
		t.Error("it stands at", at)
	}
	for b, want := range map[int]bool{0: false, 1: false, 2: true, 3: true, 4: false} {
		if marked, _ := h.chip.Marked(b); marked != want {
			t.Error(b, marked)
		}
	}
	// All is marked and told now.
	did = h.chip.Did()
	if f := h.mount(); h.chip.Did() != did || f.State().Bads() != 2 {
		t.Error(h.chip.Did()-did, f.State().Bads())
	}
	l := journalOf(t, h.chip)
	if !slices.Contains(l, api.Record{Kind: api.RecBad, At: 2}) || slices.Contains(l, api.Record{Kind: api.RecBad, At: 3}) {
		t.Error(l)
	}
}

func TestPowerFailsInMounting(t *testing.T) {
	for _, keep := range []int{0, 1} {
		h := byHand(t, usual, api.Faults{})
		at := h.data("here")
		h.tell(api.PageCheck, api.Record{Kind: api.RecMake, Space: 1, N: 9}, api.Record{Kind: api.RecPut, Space: 1, At: at}, api.Record{Kind: api.RecBad, At: 3}, api.Record{Kind: api.RecBad, At: 9})
		h.chip.Arm(api.Faults{Cuts: []api.Cut{{At: 1, Keep: keep}, {At: 2, Keep: keep}}})
		for range 2 {
			if f, e := Mount(h.chip); f != nil || e != api.ErrOff {
				t.Error(keep, f, e)
			}
			h.chip.Power()
		}
		f := h.mount()
		wantRead(t, f, 1, 0, "here")
		for _, b := range []int{3, 9} {
			if marked, _ := h.chip.Marked(b); !marked || !f.State().Bad(b) {
				t.Error(keep, b, marked)
			}
		}
	}
}

// A chip of which more blocks are bad than may be can be mounted, and read.
func TestMountOfWornChips(t *testing.T) {
	h := byHand(t, usual, api.Faults{})
	at := h.data("here")
	h.tell(api.PageCheck, api.Record{Kind: api.RecMake, Space: 1, N: 9}, api.Record{Kind: api.RecPut, Space: 1, At: at})
	for _, b := range []int{0, 1, 2} {
		h.chip.Mark(b)
	}
	f := h.mount()
	wantRead(t, f, 1, 0, "here")
	did := h.chip.Did()
	if e := f.Commit([]api.Change{mk(2, 1)}); e != api.ErrWorn || h.chip.Did() != did {
		t.Error(e, h.chip.Did()-did)
	}
	wantRead(t, h.mount(), 1, 0, "here")
}

// How often a block was erased is told by records and by its pages: the greater count holds.
func TestMountKnowsErasures(t *testing.T) {
	h := byHand(t, usual, api.Faults{})
	h.tell(api.PageCheck, api.Record{Kind: api.RecWorn, At: 0, N: 9}, api.Record{Kind: api.RecWorn, At: 1, N: 3})
	data, spare, _ := page.Frame(api.Tag{Kind: api.PageData, Seq: 9, Of: 1, Worn: 8}, "", usual.Size)
	h.chip.Program(1, 0, data, spare)
	f := h.mount()
	if e := f.Commit(nil); e != api.OK {
		t.Fatal(e)
	}
	for b, want := range map[int]int{0: 9, 1: 8, 2: 0} {
		if got := f.State().Worn(b); got != want {
			t.Error(b, got)
		}
	}
}

// A page may tell of more erasures than a record may.
func TestMountOfCountsBeyondRecords(t *testing.T) {
	h := byHand(t, usual, api.Faults{})
	h.tell(api.PageCheck)
	data, spare, _ := page.Frame(api.Tag{Kind: api.PageData, Seq: 9, Of: 1, Worn: 1<<32 - 1}, "", usual.Size)
	h.chip.Program(2, 0, data, spare)
	for range 3 {
		f := h.mount()
		if e := f.Commit(nil); e != api.OK || f.State().Worn(2) != api.MostWorn {
			t.Fatal(e, f.State().Worn(2))
		}
	}
}

func TestRead(t *testing.T) {
	b := newBench(t, usual)
	b.mustCommit(mk(1, 9), put(1, 0, "zero"), put(1, 8, ""))
	wantRead(t, b.FTL, 1, 0, "zero")
	wantRead(t, b.FTL, 1, 8, "")
	for _, x := range [][2]int{{1, 1}, {1, 9}, {1, -1}, {2, 0}, {0, 0}, {-1, 0}, {16, 0}, {1, 1 << 40}} {
		wantNone(t, b.FTL, x[0], x[1])
	}
	b.mustCommit(put(1, 0, "other"), trim(1, 8))
	wantRead(t, b.FTL, 1, 0, "other")
	wantNone(t, b.FTL, 1, 8)
	b.chip.Arm(api.Faults{Cuts: []api.Cut{{At: 1}}})
	b.chip.Mark(0)
	if s, is, e := b.Read(1, 0); s != "" || is || e != api.ErrOff {
		t.Error(s, is, e)
	}
}

func TestReadAt(t *testing.T) {
	b := newBench(t, usual)
	b.mustCommit(mk(1, 9), put(1, 0, "zero"))
	at, _ := b.State().Get(1, 0)
	if s, e := b.ReadAt(at); s != "zero" || e != api.OK {
		t.Error(s, e)
	}
	b.mustCommit(put(1, 0, "other"))
	if s, e := b.ReadAt(at); s != "zero" || e != api.OK {
		t.Error("what nothing stands at any more says", s, e)
	}
	for _, at := range []int{-1, usual.Blocks * usual.Pages, 1 << 40, -1 << 40} {
		if s, e := b.ReadAt(at); s != "" || e != api.ErrInput {
			t.Error(at, s, e)
		}
	}
	if s, e := b.ReadAt(usual.Blocks*usual.Pages - 1); s != "" || e != api.ErrForm {
		t.Error("an erased page says", s, e)
	}
	b.chip.Arm(api.Faults{Cuts: []api.Cut{{At: 1}}})
	b.chip.Mark(0)
	if s, e := b.ReadAt(at); s != "" || e != api.ErrOff {
		t.Error(s, e)
	}
	if s, e := b.ReadAt(-1); s != "" || e != api.ErrInput {
		t.Error(s, e)
	}
}

func TestStateIsACopy(t *testing.T) {
	b := newBench(t, usual)
	b.mustCommit(mk(1, 9), put(1, 0, "zero"))
	s := b.State()
	if e := s.Apply(api.Record{Kind: api.RecDrop, Space: 1}); e != api.OK {
		t.Fatal(e)
	}
	b.wantSame()
	s = b.State()
	b.mustCommit(drop(1))
	if _, is := s.Get(1, 0); !is || s.Live() != 1 {
		t.Error("a copy was changed")
	}
}

func TestFreeAndTells(t *testing.T) {
	b := newBench(t, usual)
	free := b.Free()
	b.mustCommit(mk(1, 9))
	if b.Free() != free-1 || b.Tells() != 1 {
		t.Error(b.Free(), b.Tells())
	}
	b.mustCommit(put(1, 0, "a"), put(1, 1, "b"))
	if b.Free() != free-4 || b.Tells() != 2 {
		t.Error(b.Free(), b.Tells())
	}
	open := b.Free() % usual.Pages
	b.wantMount() // the rest of the block that was open is not used any more
	if b.Free() != free-4-open || b.Tells() != 2 || open == 0 {
		t.Error(b.Free(), b.Tells())
	}
	free = b.Free()
	if e := b.Checkpoint(); e != api.OK || b.Tells() != 0 || b.Free() >= free {
		t.Error(e, b.Free(), b.Tells())
	}
	b.wantSame()
	b.wantMount()
	if b.Tells() != 0 {
		t.Error(b.Tells())
	}
	b.wantSame()
}

func TestCheckpoint(t *testing.T) {
	b := newBench(t, usual)
	b.mustCommit(mk(1, 9), put(1, 0, "zero"), double(1, 2), seal(2))
	for range 5 {
		b.mustCommit(put(1, 0, "other"))
		if e := b.Checkpoint(); e != api.OK || b.Tells() != 0 {
			t.Fatal(e, b.Tells())
		}
		all, _ := scan.All(b.chip)
		m, e := scan.Rebuild(all)
		if e != api.OK || m.Check() != m.Next()-1 || !slices.Equal(m.State().Dump(), b.State().Dump()) {
			t.Fatal(e, m.Check(), m.Next())
		}
		b.wantSame()
	}
	b.chip.Arm(api.Faults{Cuts: []api.Cut{{At: 1}}})
	b.chip.Mark(0)
	if e := b.Checkpoint(); e != api.ErrOff {
		t.Error(e)
	}
}

func TestPowerFailsInCheckpoints(t *testing.T) {
	for _, keep := range []int{0, 50, 1 << 20} {
		for at := 1; ; at++ {
			b := newBench(t, usual)
			b.fill()
			b.chip.Arm(api.Faults{Cuts: []api.Cut{{At: at, Keep: keep}}})
			e := b.Checkpoint()
			if e == api.OK {
				if at < 4 {
					t.Error("it took", at, "actions")
				}
				break
			}
			if e != api.ErrOff || b.Checkpoint() != api.ErrOff {
				t.Fatal(at, e)
			}
			b.wantMount()
			b.wantSame()
			if e := b.Checkpoint(); e != api.OK || b.Tells() != 0 {
				t.Fatal(at, e, b.Tells())
			}
			b.wantMount()
			b.wantSame()
		}
	}
}

// A chip that is worn can be read, whatever is asked of it.
func TestCheckpointsOfWornChips(t *testing.T) {
	b := newBench(t, usual, 1, 2)
	b.mustCommit(mk(1, 9), put(1, 0, "zero"))
	b.chip.Arm(api.Faults{Fails: []int{1}})
	for range 200 {
		if e := b.Checkpoint(); e != api.OK && e != api.ErrWorn {
			t.Fatal(e)
		}
	}
	b.wantSame()
	if e := b.Commit([]api.Change{drop(1)}); e != api.ErrWorn {
		t.Error(e)
	}
	b.wantMount()
	b.wantSame()
}

func TestNone(t *testing.T) {
	for name, f := range map[string]*FTL{"nil": nil, "zero": {}} {
		if e := f.Commit([]api.Change{mk(1, 1)}); e != api.ErrInput {
			t.Error(name, e)
		}
		if e := f.Commit(nil); e != api.ErrInput {
			t.Error(name, e)
		}
		if e := f.Checkpoint(); e != api.ErrInput {
			t.Error(name, e)
		}
		if s, is, e := f.Read(1, 0); s != "" || is || e != api.ErrInput {
			t.Error(name, s, is, e)
		}
		if s, e := f.ReadAt(0); s != "" || e != api.ErrInput {
			t.Error(name, s, e)
		}
		if f.State() != nil || f.Room() != (api.Room{}) || f.Free() != 0 || f.Tells() != 0 {
			t.Error(name, f.State(), f.Room(), f.Free(), f.Tells())
		}
	}
}
