package group

import (
	"fmt"
	"math"
	"math/rand"
	"slices"
	"strings"
	"testing"

	"tinderbox/api"
)

// laid is a record and its bytes, as the chapter of records tells them.
type laid struct {
	r api.Record
	s string
}

// The records of the tests by hand: two, three, four, five and nine bytes.
var (
	bad2  = laid{api.Record{Kind: 8}, "\x08\x00"}
	drop3 = laid{api.Record{Kind: 5, Space: 3}, "\x05\x01\x03"}
	seal3 = laid{api.Record{Kind: 7, Space: 15}, "\x07\x01\x0f"}
	trim4 = laid{api.Record{Kind: 2, Space: 1}, "\x02\x01\x01\x00"}
	copy5 = laid{api.Record{Kind: 6, Space: 1, To: 2}, "\x06\x01\x01\x01\x02"}
	put9  = laid{api.Record{Kind: 1, Space: 15, Page: 1023, At: 511}, "\x01\x01\x0f\x02\xff\x03\x02\xff\x01"}
)

// all are records of each kind, of each length that there is among them, written out by hand.
func all() []laid {
	return []laid{
		bad2, drop3, seal3, trim4, copy5, put9,
		{api.Record{Kind: 1, Space: 1}, "\x01\x01\x01\x00\x00"},
		{api.Record{Kind: 1, Space: 3, Page: 300, At: 9}, "\x01\x01\x03\x02\x2c\x01\x01\x09"},
		{api.Record{Kind: 2, Space: 2, Page: 7}, "\x02\x01\x02\x01\x07"},
		{api.Record{Kind: 2, Space: 2, Page: 256}, "\x02\x01\x02\x02\x00\x01"},
		{api.Record{Kind: 3}, "\x03\x00\x00"},
		{api.Record{Kind: 3, At: 5, To: 260}, "\x03\x01\x05\x02\x04\x01"},
		{api.Record{Kind: 3, At: 256, To: 511}, "\x03\x02\x00\x01\x02\xff\x01"},
		{api.Record{Kind: 4, Space: 4, N: 1}, "\x04\x01\x04\x01\x01"},
		{api.Record{Kind: 4, Space: 4, N: 1024}, "\x04\x01\x04\x02\x00\x04"},
		{api.Record{Kind: 8, At: 31}, "\x08\x01\x1f"},
		{api.Record{Kind: 9, At: 31}, "\x09\x01\x1f\x00"},
		{api.Record{Kind: 9, At: 6, N: 70000}, "\x09\x01\x06\x03\x70\x11\x01"},
		{api.Record{Kind: 9, At: 6, N: 1 << 30}, "\x09\x01\x06\x04\x00\x00\x00\x40"},
	}
}

// records and bytes are the two halves of a list of them.
func records(l ...laid) []api.Record {
	var out []api.Record
	for _, x := range l {
		out = append(out, x.r)
	}
	return out
}

func bytes(l ...laid) string {
	s := ""
	for _, x := range l {
		s += x.s
	}
	return s
}

// sizes are such that all records just fill, just miss, and do not fit at all, and the edges of int.
func sizes() []int {
	out := []int{math.MinInt, math.MinInt + 1, -1 << 32, -2, 1 << 31, 1<<32 + 1, math.MaxInt - 1, math.MaxInt}
	for n := -1; n <= 130; n++ {
		out = append(out, n)
	}
	return out
}

// some is a random list of the records of all.
func some(rnd *rand.Rand, most int) []laid {
	from := all()
	l := make([]laid, rnd.Intn(most+1))
	for i := range l {
		l[i] = from[rnd.Intn(len(from))]
	}
	return l
}

// plainPack looks at each text by itself: how many of the records that are left fit into it.
func plainPack(l []laid, size int) []string {
	if len(l) == 0 {
		return []string{""}
	}
	var out []string
	for len(l) > 0 {
		n := 1
		for n < len(l) && len(bytes(l[:n+1]...)) <= size {
			n++
		}
		out = append(out, bytes(l[:n]...))
		l = l[n:]
	}
	return out
}

// packs asks for the texts, and that Pages tells how many they are.
func packs(t *testing.T, name string, l []api.Record, size int, want []string) {
	t.Helper()
	if got := Pack(l, size); !slices.Equal(got, want) {
		t.Errorf("%s, size %d: %q, want %q", name, size, got, want)
	}
	if got := Pages(l, size); got != len(want) {
		t.Errorf("%s, size %d: %d pages, want %d", name, size, got, len(want))
	}
}

// unpacks asks for the records of texts.
func unpacks(t *testing.T, name string, want []api.Record, texts ...string) {
	t.Helper()
	if got, err := Unpack(texts...); err != api.OK || !slices.Equal(got, want) {
		t.Errorf("%s: Unpack of %q = %v, %d, want %v", name, texts, got, err, want)
	}
}

// refuses asks for an error, and for no record beside it.
func refuses(t *testing.T, name string, want api.Errno, texts ...string) {
	t.Helper()
	if got, err := Unpack(texts...); err != want || len(got) != 0 {
		t.Errorf("%s: Unpack of %q = %v, %d, want error %d", name, texts, got, err, want)
	}
}

func TestNoRecordsAreOneEmptyText(t *testing.T) {
	for _, size := range sizes() {
		packs(t, "nil", nil, size, []string{""})
		packs(t, "none", []api.Record{}, size, []string{""})
	}
}

func TestPackByHand(t *testing.T) {
	for _, c := range []struct {
		name string
		l    []laid
		size int
		want []string
	}{
		{"one that just fills", []laid{drop3}, 3, []string{drop3.s}},
		{"one with room beside it", []laid{drop3}, 4, []string{drop3.s}},
		{"two that just fill", []laid{drop3, seal3}, 6, []string{drop3.s + seal3.s}},
		{"two that just miss", []laid{drop3, seal3}, 5, []string{drop3.s, seal3.s}},
		{"two with room for less than a third", []laid{drop3, seal3, bad2}, 7, []string{drop3.s + seal3.s, bad2.s}},
		{"three that just fill", []laid{drop3, seal3, bad2}, 8, []string{drop3.s + seal3.s + bad2.s}},
		{"the same one twice", []laid{drop3, drop3}, 6, []string{drop3.s + drop3.s}},
		{"the same one twice, just missed", []laid{drop3, drop3}, 5, []string{drop3.s, drop3.s}},
		{"the second text is counted from its own beginning", []laid{copy5, drop3, bad2, seal3}, 6, []string{copy5.s, drop3.s + bad2.s, seal3.s}},
		{"a small one does not go back into room that was left", []laid{trim4, copy5, bad2}, 6, []string{trim4.s, copy5.s, bad2.s}},
		{"not in another order, though fewer texts would come of it", []laid{trim4, copy5, bad2, drop3}, 7, []string{trim4.s, copy5.s + bad2.s, drop3.s}},
		{"full from the first on, not evenly", []laid{drop3, drop3, drop3, drop3}, 9, []string{drop3.s + drop3.s + drop3.s, drop3.s}},
		{"all in one", []laid{bad2, drop3, trim4, copy5, put9}, 23, []string{bad2.s + drop3.s + trim4.s + copy5.s + put9.s}},
		{"all but the last", []laid{bad2, drop3, trim4, copy5, put9}, 22, []string{bad2.s + drop3.s + trim4.s + copy5.s, put9.s}},
		{"all, at the greatest size", []laid{put9, bad2, put9}, math.MaxInt, []string{put9.s + bad2.s + put9.s}},
	} {
		packs(t, c.name, records(c.l...), c.size, c.want)
		unpacks(t, c.name, records(c.l...), c.want...)
	}
}

func TestOneThatIsLongerStandsAlone(t *testing.T) {
	for _, c := range []struct {
		name string
		l    []laid
		want []string
	}{
		{"by itself", []laid{put9}, []string{put9.s}},
		{"first", []laid{put9, bad2, bad2}, []string{put9.s, bad2.s + bad2.s}},
		{"last", []laid{bad2, bad2, put9}, []string{bad2.s + bad2.s, put9.s}},
		{"between", []laid{bad2, put9, bad2}, []string{bad2.s, put9.s, bad2.s}},
		{"two of them", []laid{put9, put9}, []string{put9.s, put9.s}},
		{"two of them between", []laid{bad2, put9, put9, bad2}, []string{bad2.s, put9.s, put9.s, bad2.s}},
		{"behind a full text", []laid{bad2, trim4, put9}, []string{bad2.s + trim4.s, put9.s}},
	} {
		for size := 6; size <= 8; size++ {
			packs(t, c.name, records(c.l...), size, c.want)
		}
		unpacks(t, c.name, records(c.l...), c.want...)
	}
	packs(t, "one byte longer", records(bad2, drop3, bad2), 2, []string{bad2.s, drop3.s, bad2.s})
}

func TestSizesIntoWhichNothingFits(t *testing.T) {
	var want []string
	for _, x := range all() {
		want = append(want, x.s)
	}
	for _, size := range []int{math.MinInt, math.MinInt + 9, -1 << 32, -9, -1, 0, 1} {
		packs(t, "all", records(all()...), size, want)
	}
	unpacks(t, "all", records(all()...), want...)
}

func TestEachRecordAloneAtAllSizes(t *testing.T) {
	for _, x := range all() {
		for _, size := range sizes() {
			packs(t, "alone", []api.Record{x.r}, size, []string{x.s})
		}
		unpacks(t, "alone", []api.Record{x.r}, x.s)
	}
}

func TestEachTwoAtTheirEdges(t *testing.T) {
	for _, x := range all() {
		for _, y := range all() {
			both := len(x.s) + len(y.s)
			packs(t, "just missed", records(x, y), both-1, []string{x.s, y.s})
			packs(t, "just filled", records(x, y), both, []string{x.s + y.s})
			packs(t, "a byte of room", records(x, y), both+1, []string{x.s + y.s})
		}
	}
}

func TestThereAndBackAtAllSizes(t *testing.T) {
	l := append(all(), all()...)
	rnd := rand.New(rand.NewSource(9))
	rnd.Shuffle(len(l), func(i, j int) { l[i], l[j] = l[j], l[i] })
	for _, size := range sizes() {
		texts := Pack(records(l...), size)
		if !slices.Equal(texts, plainPack(l, size)) {
			t.Errorf("size %d: %q", size, texts)
		}
		unpacks(t, fmt.Sprint("size ", size), records(l...), texts...)
	}
}

func TestAnyRecords(t *testing.T) {
	rnd := rand.New(rand.NewSource(19))
	for range 20000 {
		l := some(rnd, 12)
		size := rnd.Intn(40) - 2
		texts := plainPack(l, size)
		packs(t, "any", records(l...), size, texts)
		unpacks(t, "any", records(l...), texts...)
	}
}

func TestUnpackOfNothing(t *testing.T) {
	unpacks(t, "no texts", nil)
	unpacks(t, "nil", nil, []string(nil)...)
	unpacks(t, "one empty text", nil, "")
	unpacks(t, "empty texts", nil, "", "", "")
}

// How records are spread over texts is nothing to Unpack: it takes what Pack would have put elsewhere, too.
func TestUnpackInTheirOrder(t *testing.T) {
	want := records(drop3, put9, bad2, seal3)
	for _, texts := range [][]string{
		{drop3.s + put9.s + bad2.s + seal3.s},
		{drop3.s, put9.s, bad2.s, seal3.s},
		{drop3.s + put9.s, bad2.s + seal3.s},
		{"", drop3.s, "", put9.s + bad2.s, "", "", seal3.s, ""},
	} {
		unpacks(t, "spread", want, texts...)
	}
	unpacks(t, "the other way round", records(seal3, bad2, put9, drop3), seal3.s+bad2.s, put9.s, drop3.s)
	unpacks(t, "the same ones again", records(drop3, drop3, drop3), drop3.s+drop3.s, drop3.s)
}

// wrong are bytes of which no record can be taken, with nothing behind them, and their errors.
func wrong() map[string]api.Errno {
	return map[string]api.Errno{
		"\x05":                         api.ErrShort, // no number
		"\x05\x01":                     api.ErrShort, // half a number
		"\x01\x01\x01\x00":             api.ErrShort, // a number lacks
		"\x04\x00":                     api.ErrShort, // a number lacks behind a nought
		"\x00":                         api.ErrForm,  // no such kind
		"\x0a\x01\x01":                 api.ErrForm,
		"\xff":                         api.ErrForm,
		"\x05\x00":                     api.ErrForm, // a nought
		"\x04\x01\x01\x00":             api.ErrForm,
		"\x06\x01\x01\x00":             api.ErrForm,
		"\x05\x09":                     api.ErrForm, // a number of nine bytes
		"\x05\x02\x01\x00":             api.ErrForm, // a number whose last byte is 0
		"\x05\x01\x10":                 api.ErrOver,
		"\x06\x01\x01\x01\x10":         api.ErrOver,
		"\x02\x01\x01\x02\x00\x04":     api.ErrOver,
		"\x03\x00\x02\x00\x02":         api.ErrOver,
		"\x04\x01\x01\x02\x01\x04":     api.ErrOver,
		"\x04\x00\x02\x01\x04":         api.ErrOver, // behind a nought
		"\x08\x01\x20":                 api.ErrOver,
		"\x09\x00\x04\x01\x00\x00\x40": api.ErrOver,
		"\x07\x08\xff\xff\xff\xff\xff\xff\xff\xff":         api.ErrOver,
		"\x01\x01\x01\x08\x01\x00\x00\x00\x00\x00\x00\x80": api.ErrOver,
	}
}

func TestUnpackOfWhatCannotBeTaken(t *testing.T) {
	for s, want := range wrong() {
		refuses(t, "alone", want, s)
		refuses(t, "behind records", want, drop3.s+put9.s+s)
		refuses(t, "in the second text", want, drop3.s+put9.s, s)
		refuses(t, "behind a record in the last text", want, drop3.s, "", put9.s+s)
		refuses(t, "ahead of texts that can be taken", want, s, drop3.s, put9.s)
		refuses(t, "between them", want, drop3.s, s, put9.s)
		if want != api.ErrShort {
			refuses(t, "ahead of a record", want, s+drop3.s)
		}
	}
}

func TestUnpackTellsTheFirstError(t *testing.T) {
	for s, want := range wrong() {
		for later := range wrong() {
			refuses(t, "in two texts", want, drop3.s+s, later)
			refuses(t, "in two texts, not the next one", want, s, drop3.s, later)
			if want != api.ErrShort {
				refuses(t, "in one text", want, s+later)
			}
		}
	}
}

// A record is whole in one text: the bytes of the next one do not go on with it.
func TestUnpackOfRecordsThatAreCut(t *testing.T) {
	for _, x := range all() {
		for n := 1; n < len(x.s); n++ {
			refuses(t, "cut off", api.ErrShort, x.s[:n])
			refuses(t, "cut in two", api.ErrShort, x.s[:n], x.s[n:])
			refuses(t, "cut in two behind a record", api.ErrShort, drop3.s+x.s[:n], x.s[n:]+drop3.s)
			refuses(t, "cut in two, an empty text between", api.ErrShort, x.s[:n], "", x.s[n:])
		}
	}
}

// Records and wrong bytes are spread over texts at random: the first wrong ones tell the error, whatever comes behind them.
func TestUnpackOfAnyTexts(t *testing.T) {
	var faults []string
	for s := range wrong() {
		faults = append(faults, s)
	}
	slices.Sort(faults)
	rnd := rand.New(rand.NewSource(29))
	seen := map[api.Errno]int{}
	for range 20000 {
		var texts []string
		var want []api.Record
		err := api.OK
		for range rnd.Intn(5) {
			l := some(rnd, 4)
			s := bytes(l...)
			want = append(want, records(l...)...)
			if rnd.Intn(6) == 0 {
				fault := faults[rnd.Intn(len(faults))]
				s += fault
				if err == api.OK {
					err = wrong()[fault]
				}
			}
			texts = append(texts, s)
		}
		seen[err]++
		if err != api.OK {
			refuses(t, "any", err, texts...)
			continue
		}
		unpacks(t, "any", want, texts...)
	}
	for _, e := range []api.Errno{api.OK, api.ErrShort, api.ErrForm, api.ErrOver} {
		if seen[e] < 500 {
			t.Errorf("error %d came %d times only", e, seen[e])
		}
	}
}

// Nothing is promised of records that may not be but that the call ends: they are passed over, and the others are packed as if alone.
func TestPackPassesOverRecordsThatMayNotBe(t *testing.T) {
	none := []api.Record{{}, {Kind: 10, Space: 1}, {Kind: -1}, {Kind: 5}, {Kind: 5, Space: 16}, {Kind: 5, Space: 3, Page: 1}, {Kind: 256 + 5, Space: 3}, {Kind: 1, Space: 1, At: math.MinInt}}
	for _, size := range sizes() {
		packs(t, "none that may be", none, size, []string{""})
		for _, l := range [][]laid{{drop3}, {put9}, {put9, put9}, {bad2, drop3, put9, copy5, copy5}} {
			mixed := slices.Clone(none)
			for _, x := range l {
				mixed = append(append(mixed, x.r), none...)
			}
			packs(t, "others beside them", mixed, size, plainPack(l, size))
		}
	}
}

// What is handed in is as it was; what is answered is the caller's own.
func TestNothingIsShared(t *testing.T) {
	l := records(all()...)
	texts := Pack(l, 12)
	if !slices.Equal(l, records(all()...)) {
		t.Error("Pack changed what was handed in", l)
	}
	kept := slices.Clone(texts)
	clear(l)
	if !slices.Equal(texts, kept) {
		t.Error("what Pack answered hangs on what was handed in")
	}
	Pack(records(put9, put9, put9), 12)
	if !slices.Equal(texts, kept) {
		t.Error("what Pack answered hangs on a later call")
	}
	one, _ := Unpack(texts...)
	if !slices.Equal(texts, kept) {
		t.Error("Unpack changed what was handed in", texts)
	}
	other, _ := Unpack(texts...)
	clear(one)
	_ = append(one[:0], put9.r)
	clear(texts)
	if !slices.Equal(other, records(all()...)) {
		t.Error("what Unpack answered hangs on something else", other)
	}
}

// Many records are packed in a time that grows as they do.
func TestMany(t *testing.T) {
	const many = 300000
	l := slices.Repeat(records(put9), many)
	whole := strings.Repeat(put9.s, many)
	for _, c := range []struct {
		size  int
		pages int
	}{{math.MaxInt, 1}, {9 * many, 1}, {9*many - 1, 2}, {90, many / 10}, {0, many}} {
		texts := Pack(l, c.size)
		if len(texts) != c.pages || Pages(l, c.size) != c.pages || strings.Join(texts, "") != whole {
			t.Errorf("size %d: %d texts, %d pages, want %d", c.size, len(texts), Pages(l, c.size), c.pages)
		}
		if got, err := Unpack(texts...); err != api.OK || !slices.Equal(got, l) {
			t.Errorf("size %d: %d records, %d", c.size, len(got), err)
		}
	}
}
