package rec

import (
	"bytes"
	"encoding/binary"
	"math"
	"math/rand"
	"strings"
	"testing"

	"tinderbox/api"
	"tinderbox/code"
)

// field is a number of a record as the chapter tells it: its name, its least and its greatest.
type field struct {
	name        byte
	least, most int
}

// kind is a kind of record as the chapter tells it: its number, its fields in their order.
type kind struct {
	n      int
	fields []field
}

// The names of a record's fields.
const (
	inSpace = 'S'
	inPage  = 'P'
	inAt    = 'A'
	inTo    = 'T'
	inN     = 'N'
	names   = "SPATN"
)

// kinds are the nine, with the numbers written out.
func kinds() []kind {
	return []kind{
		{1, []field{{inSpace, 1, 15}, {inPage, 0, 1023}, {inAt, 0, 511}}},
		{2, []field{{inSpace, 1, 15}, {inPage, 0, 1023}}},
		{3, []field{{inAt, 0, 511}, {inTo, 0, 511}}},
		{4, []field{{inSpace, 1, 15}, {inN, 1, 1024}}},
		{5, []field{{inSpace, 1, 15}}},
		{6, []field{{inSpace, 1, 15}, {inTo, 1, 15}}},
		{7, []field{{inSpace, 1, 15}}},
		{8, []field{{inAt, 0, 31}}},
		{9, []field{{inAt, 0, 31}, {inN, 0, 1073741824}}},
	}
}

// with is a record in which one field is another one.
func with(r api.Record, name byte, n int) api.Record {
	switch name {
	case inSpace:
		r.Space = n
	case inPage:
		r.Page = n
	case inAt:
		r.At = n
	case inTo:
		r.To = n
	case inN:
		r.N = n
	}
	return r
}

// within are numbers of a field that may be: its edges, those beside them, and those at which the count of bytes changes.
func within(f field) []int {
	var out []int
	for _, n := range []int{f.least, f.least + 1, 2, 9, 255, 256, 300, 65535, 65536, 1 << 24, f.most - 1, f.most} {
		if n >= f.least && n <= f.most {
			out = append(out, n)
		}
	}
	return out
}

// beyond are numbers above a field's greatest, those among them that would be small if their upper bits were cut off.
func beyond(f field) []int {
	return []int{f.most + 1, f.most + 2, f.most + 256, f.most + 65536, 1<<31 + 1, 1<<32 + 1, 1<<40 + 1, 1<<62 + 1, math.MaxInt}
}

// below are numbers below a field's least one.
func below(f field) []int {
	return []int{f.least - 1, -1, -2, -255, -256 + f.least, -1<<32 + f.least, math.MinInt + f.least, math.MinInt}
}

// least is the record of a kind with the least number of each field.
func least(k kind) api.Record {
	r := api.Record{Kind: k.n}
	for _, f := range k.fields {
		r = with(r, f.name, f.least)
	}
	return r
}

// records are such that may be: of each kind, with all numbers of within in each field beside one another.
func records() []api.Record {
	var out []api.Record
	for _, k := range kinds() {
		l := []api.Record{{Kind: k.n}}
		for _, f := range k.fields {
			var more []api.Record
			for _, r := range l {
				for _, n := range within(f) {
					more = append(more, with(r, f.name, n))
				}
			}
			l = more
		}
		out = append(out, l...)
	}
	return out
}

// otherKinds are numbers that no kind has.
func otherKinds() []int {
	out := []int{math.MinInt, math.MaxInt, -1 << 32, 1 << 32, 1<<32 + 5, 1<<16 + 1, 65535, 256 * 7}
	for n := -600; n <= 600; n++ {
		if n < 1 || n > 9 {
			out = append(out, n)
		}
	}
	return out
}

// num is a number as the bytes of the chapter of code, by the library's words of eight bytes.
func num(n uint64) string {
	low := bytes.TrimRight(binary.LittleEndian.AppendUint64(nil, n), "\x00")
	return string(append([]byte{byte(len(low))}, low...))
}

// of is one field of a record.
func of(r api.Record, name byte) int {
	return map[byte]int{inSpace: r.Space, inPage: r.Page, inAt: r.At, inTo: r.To, inN: r.N}[name]
}

// laid is a record as bytes, as the chapter tells it, whether it may be or not.
func laid(k kind, r api.Record) string {
	s := string([]byte{byte(k.n)})
	for _, f := range k.fields {
		s += num(uint64(of(r, f.name)))
	}
	return s
}

// takes asks for a record, and that just so many bytes are left behind it.
func takes(t *testing.T, s string, want api.Record, left int) {
	t.Helper()
	r := code.New(s)
	if got, err := Take(r); err != api.OK || got != want || r.Left() != left || r.Err() != api.OK {
		t.Errorf("Take of %q = %v, %d, %d left, want %v, %d left", s, got, err, r.Left(), want, left)
	}
}

// refuses asks for an error, and for nothing beside it.
func refuses(t *testing.T, why, s string, want api.Errno) {
	t.Helper()
	if got, err := Take(code.New(s)); err != want || got != (api.Record{}) {
		t.Errorf("%s: Take of %q = %v, %d, want error %d", why, s, got, err, want)
	}
}

func TestCheckWithinLimits(t *testing.T) {
	for _, r := range records() {
		if !Check(r) {
			t.Errorf("Check(%v) = false", r)
		}
	}
}

func TestCheckBeyondLimits(t *testing.T) {
	for _, k := range kinds() {
		for _, f := range k.fields {
			for _, n := range append(below(f), beyond(f)...) {
				if r := with(least(k), f.name, n); Check(r) {
					t.Errorf("Check(%v) = true", r)
				}
			}
		}
	}
}

// What a kind does not have is 0, be it as small as it may.
func TestCheckWhatAKindDoesNotHave(t *testing.T) {
	for _, k := range kinds() {
		for i := range len(names) {
			if has(k, names[i]) {
				continue
			}
			for _, n := range []int{1, 2, 15, 256, 1 << 32, -1, math.MinInt, math.MaxInt} {
				if r := with(least(k), names[i], n); Check(r) {
					t.Errorf("Check(%v) = true", r)
				}
			}
		}
	}
}

// has tells whether a kind has a field of that name.
func has(k kind, name byte) bool {
	for _, f := range k.fields {
		if f.name == name {
			return true
		}
	}
	return false
}

func TestCheckOtherKinds(t *testing.T) {
	for _, n := range otherKinds() {
		for _, k := range kinds() {
			r := least(k)
			r.Kind = n
			if Check(r) {
				t.Errorf("Check(%v) = true", r)
			}
		}
		if r := (api.Record{Kind: n}); Check(r) {
			t.Errorf("Check(%v) = true", r)
		}
	}
}

// mayBe asks of a record what the chapter's words ask, field by field.
func mayBe(r api.Record) bool {
	for _, k := range kinds() {
		if k.n != r.Kind {
			continue
		}
		rest := r
		for _, f := range k.fields {
			if n := of(r, f.name); n < f.least || n > f.most {
				return false
			}
			rest = with(rest, f.name, 0)
		}
		return rest == api.Record{Kind: r.Kind}
	}
	return false
}

func TestCheckOfAnyRecord(t *testing.T) {
	edges := []int{0, 0, 0, 0, 0, 0, 1, 1, 14, 15, 16, 31, 32, 511, 512, 1023, 1024, 1025, 1 << 30, 1<<30 + 1, -1}
	rnd := rand.New(rand.NewSource(7))
	good := 0
	for range 300000 {
		pick := func() int { return edges[rnd.Intn(len(edges))] }
		r := api.Record{Kind: rnd.Intn(11), Space: pick(), Page: pick(), At: pick(), To: pick(), N: pick()}
		want := mayBe(r)
		if want {
			good++
		}
		if got := Check(r); got != want {
			t.Fatalf("Check(%v) = %v, want %v", r, got, want)
		}
		if got := Put(r); (got != "") != want {
			t.Fatalf("Put(%v) = %q", r, got)
		}
	}
	if good < 1000 {
		t.Errorf("only %d records that may be", good)
	}
}

func TestPutByHand(t *testing.T) {
	for _, c := range []struct {
		r    api.Record
		want string
	}{
		{api.Record{Kind: api.RecPut, Space: 3, Page: 300, At: 9}, "\x01\x01\x03\x02\x2c\x01\x01\x09"},
		{api.Record{Kind: api.RecPut, Space: 1}, "\x01\x01\x01\x00\x00"},
		{api.Record{Kind: api.RecPut, Space: 15, Page: 1023, At: 511}, "\x01\x01\x0f\x02\xff\x03\x02\xff\x01"},
		{api.Record{Kind: api.RecTrim, Space: 2, Page: 7}, "\x02\x01\x02\x01\x07"},
		{api.Record{Kind: api.RecTrim, Space: 15}, "\x02\x01\x0f\x00"},
		{api.Record{Kind: api.RecMove, At: 5, To: 260}, "\x03\x01\x05\x02\x04\x01"},
		{api.Record{Kind: api.RecMove}, "\x03\x00\x00"},
		{api.Record{Kind: api.RecMake, Space: 4, N: 1024}, "\x04\x01\x04\x02\x00\x04"},
		{api.Record{Kind: api.RecMake, Space: 4, N: 1}, "\x04\x01\x04\x01\x01"},
		{api.Record{Kind: api.RecDrop, Space: 3}, "\x05\x01\x03"},
		{api.Record{Kind: api.RecCopy, Space: 1, To: 2}, "\x06\x01\x01\x01\x02"},
		{api.Record{Kind: api.RecCopy, Space: 15, To: 15}, "\x06\x01\x0f\x01\x0f"},
		{api.Record{Kind: api.RecSeal, Space: 15}, "\x07\x01\x0f"},
		{api.Record{Kind: api.RecBad, At: 31}, "\x08\x01\x1f"},
		{api.Record{Kind: api.RecBad}, "\x08\x00"},
		{api.Record{Kind: api.RecWorn, At: 6, N: 70000}, "\x09\x01\x06\x03\x70\x11\x01"},
		{api.Record{Kind: api.RecWorn, N: 1 << 30}, "\x09\x00\x04\x00\x00\x00\x40"},
		{api.Record{Kind: api.RecWorn, At: 31}, "\x09\x01\x1f\x00"},
	} {
		if got := Put(c.r); got != c.want {
			t.Errorf("Put(%v) = %q, want %q", c.r, got, c.want)
		}
		takes(t, c.want, c.r, 0)
	}
}

func TestPutAsTheWordsTellIt(t *testing.T) {
	all := kinds()
	for _, r := range records() {
		if got, want := Put(r), laid(all[r.Kind-1], r); got != want {
			t.Errorf("Put(%v) = %q, want %q", r, got, want)
		}
	}
}

func TestPutOfOneThatMayNotBe(t *testing.T) {
	wrong := []api.Record{{}, {Kind: 10, Space: 1}, {Kind: 256 + api.RecDrop, Space: 3}, {Kind: api.RecDrop, Space: 3, Page: 1}}
	for _, k := range kinds() {
		for _, f := range k.fields {
			for _, n := range append(below(f), beyond(f)...) {
				wrong = append(wrong, with(least(k), f.name, n))
			}
		}
	}
	for _, r := range wrong {
		if got := Put(r); got != "" {
			t.Errorf("Put(%v) = %q", r, got)
		}
	}
}

func TestTakeWhatPutMade(t *testing.T) {
	for _, r := range records() {
		s := Put(r)
		takes(t, s, r, 0)
		for _, more := range []string{"\x00", "\x01", "\xff", "\x05\x01\x03", strings.Repeat("\x09", 20)} {
			takes(t, s+more, r, len(more))
		}
	}
}

func TestOneBehindTheOther(t *testing.T) {
	all := records()
	rand.New(rand.NewSource(17)).Shuffle(len(all), func(i, j int) { all[i], all[j] = all[j], all[i] })
	var b strings.Builder
	b.WriteString(num(77))
	for _, r := range all {
		b.WriteString(Put(r))
	}
	b.WriteString("\x02ab")
	r := code.New(b.String())
	if n := r.Num(100); n != 77 {
		t.Fatal(n)
	}
	for i, want := range all {
		if got, err := Take(r); err != api.OK || got != want {
			t.Fatalf("record %d: %v, %d, want %v", i, got, err, want)
		}
	}
	if s := r.Bytes(3); s != "\x02ab" || r.End() != api.OK {
		t.Error(s, r.End())
	}
	for range 2 {
		if got, err := Take(r); err != api.ErrShort || got != (api.Record{}) {
			t.Error(got, err)
		}
	}
}

// Wherever the bytes of a record end too early, that is the error, even behind a nought that must be 1 or more.
func TestTakeShort(t *testing.T) {
	refuses(t, "nothing there", "", api.ErrShort)
	for _, r := range records() {
		s := Put(r)
		for n := range len(s) {
			refuses(t, "cut off", s[:n], api.ErrShort)
		}
	}
	for _, k := range kinds() {
		s := laid(k, api.Record{})
		for n := 1; n < len(s); n++ {
			refuses(t, "noughts cut off", s[:n], api.ErrShort)
		}
	}
}

// fieldsLaid are the bytes of a kind, and those of each of its numbers, all of them at their least.
func fieldsLaid(k kind) (string, []string) {
	var out []string
	for _, f := range k.fields {
		out = append(out, num(uint64(f.least)))
	}
	return string([]byte{byte(k.n)}), out
}

// replaced is a record's bytes in which one number's bytes are others.
func replaced(k kind, i int, s string) string {
	head, parts := fieldsLaid(k)
	parts[i] = s
	return head + strings.Join(parts, "")
}

func TestTakeAboveTheLimit(t *testing.T) {
	for _, k := range kinds() {
		for i, f := range k.fields {
			over := []uint64{1<<63 + 1, math.MaxUint64}
			for _, n := range beyond(f) {
				over = append(over, uint64(n))
			}
			for _, n := range over {
				s := replaced(k, i, num(n))
				refuses(t, "above the limit", s, api.ErrOver)
				refuses(t, "above the limit, and bytes behind it", s+"\x05\x01\x03", api.ErrOver)
			}
			takes(t, replaced(k, i, num(uint64(f.most))), with(least(k), f.name, f.most), 0)
		}
	}
}

func TestTakeNumberWithoutItsForm(t *testing.T) {
	for _, k := range kinds() {
		for i := range k.fields {
			for _, s := range []string{"\x01\x00", "\x02\x01\x00", "\x04\xff\xff\xff\x00", "\x08\x01\x00\x00\x00\x00\x00\x00\x00", "\x09\x01", "\x0a", "\xff"} {
				refuses(t, "form", replaced(k, i, s), api.ErrForm)
			}
		}
	}
}

// Of two wrong numbers the first is told; whether one is 0 is asked behind all of them.
func TestTakeTheFirstError(t *testing.T) {
	top := num(math.MaxUint64)
	for _, c := range []struct {
		name string
		s    string
		want api.Errno
	}{
		{"above, then missing", "\x01" + top, api.ErrOver},
		{"above, then without form", "\x01" + top + "\x09", api.ErrOver},
		{"above, then 0", "\x04" + top + "\x00", api.ErrOver},
		{"without form, then above", "\x02\x01\x00" + top, api.ErrForm},
		{"without form, then missing", "\x02\x01\x00", api.ErrForm},
		{"form ahead of the limit, in one number", "\x05\x02\x10\x00", api.ErrForm},
		{"missing ahead of the limit, in one number", "\x05\x02\x10", api.ErrShort},
		{"0, then above", "\x01\x00\x01\x01" + top, api.ErrOver},
		{"0, then above at once", "\x04\x00\x02\x01\x04", api.ErrOver},
		{"0, then above, of a copy", "\x06\x00\x01\x10", api.ErrOver},
		{"0, then missing", "\x01\x00\x01\x01", api.ErrShort},
		{"0, then missing, of a make", "\x04\x00", api.ErrShort},
		{"0, then missing, of a copy", "\x06\x00\x01", api.ErrShort},
		{"0, then a last number above, behind a good one", "\x01\x00\x00\x02\x00\x02", api.ErrOver},
		{"good, then above, then missing", "\x01\x01\x01\x02\x00\x04", api.ErrOver},
		{"0 and 0", "\x04\x00\x00", api.ErrForm},
		{"0 and 0, of a copy", "\x06\x00\x00", api.ErrForm},
		{"0, then what may be 0", "\x01\x00\x00\x00", api.ErrForm},
		{"no such kind, and nothing behind it", "\x0a", api.ErrForm},
		{"no such kind, and a number without form", "\x0a\x09", api.ErrForm},
		{"no such kind, and a number above", "\x0a" + top, api.ErrForm},
	} {
		refuses(t, c.name, c.s, c.want)
	}
}

func TestTakeNoughts(t *testing.T) {
	for _, k := range kinds() {
		for i, f := range k.fields {
			s := replaced(k, i, "\x00")
			if f.least == 0 {
				takes(t, s+"\x07", with(least(k), f.name, 0), 1)
				continue
			}
			refuses(t, "must be 1 or more", s, api.ErrForm)
			// The record was read to its end, so that what stands behind it is another one.
			r := code.New(s + "\x07\x01\x04")
			if _, err := Take(r); err != api.ErrForm || r.Left() != 3 {
				t.Errorf("%q: %d, %d left", s, err, r.Left())
			}
			if got, err := Take(r); err != api.OK || got != (api.Record{Kind: 7, Space: 4}) {
				t.Errorf("behind %q: %v, %d", s, got, err)
			}
		}
	}
}

func TestTakeOtherKinds(t *testing.T) {
	for n := range 256 {
		if n >= 1 && n <= 9 {
			continue
		}
		for _, more := range []string{"", "\x00", "\x01\x01", "\x01\x03\x01\x03\x01\x03", "\x09\x09", "\xff\xff"} {
			refuses(t, "no such kind", string([]byte{byte(n)})+more, api.ErrForm)
		}
	}
}

// A number that says more bytes than it needs is none, even at a kind's edges: each record has one form.
func TestTakeOneFormAlone(t *testing.T) {
	for _, k := range kinds() {
		for i, f := range k.fields {
			for _, n := range within(f) {
				short := num(uint64(n))
				long := string([]byte{short[0] + 1}) + short[1:] + "\x00"
				refuses(t, "longer than it must be", replaced(k, i, long), api.ErrForm)
			}
		}
	}
}

func TestTakeOfNone(t *testing.T) {
	for range 2 {
		if got, err := Take(nil); err != api.ErrInput || got != (api.Record{}) {
			t.Error(got, err)
		}
	}
}

// A reader's error of before is the first one, and stays.
func TestTakeBehindAnError(t *testing.T) {
	good := Put(api.Record{Kind: api.RecDrop, Space: 3})
	for _, c := range []struct {
		name string
		s    string
		read func(r *code.Reader)
		want api.Errno
	}{
		{"short", good, func(r *code.Reader) { r.Bytes(100) }, api.ErrShort},
		{"form", "\x09" + good, func(r *code.Reader) { r.Num(5) }, api.ErrForm},
		{"over", "\x01\x09" + good, func(r *code.Reader) { r.Num(5) }, api.ErrOver},
		{"a record above its limit", "\x05\x01\x10" + good, func(r *code.Reader) { Take(r) }, api.ErrOver},
		{"a record without its form", "\x05\x01\x00" + good, func(r *code.Reader) { Take(r) }, api.ErrForm},
	} {
		r := code.New(c.s)
		c.read(r)
		for range 2 {
			if got, err := Take(r); err != c.want || got != (api.Record{}) || r.Err() != c.want {
				t.Errorf("%s: %v, %d, want %d", c.name, got, err, c.want)
			}
		}
	}
}

// plainTake reads a record byte by byte, as the chapters of code and rec tell it: the record, how many bytes it has, the error.
func plainTake(b []byte) (api.Record, int, api.Errno) {
	if len(b) == 0 {
		return api.Record{}, 0, api.ErrShort
	}
	if b[0] < 1 || b[0] > 9 {
		return api.Record{}, 0, api.ErrForm
	}
	k := kinds()[b[0]-1]
	r, at, nought := api.Record{Kind: k.n}, 1, false
	for _, f := range k.fields {
		n, wide, err := plainNum(b[at:], uint64(f.most))
		if err != api.OK {
			return api.Record{}, 0, err
		}
		r = with(r, f.name, int(n))
		nought = nought || int(n) < f.least
		at += wide
	}
	if nought {
		return api.Record{}, 0, api.ErrForm
	}
	return r, at, api.OK
}

// plainNum reads a number: it, how many bytes it has, the error.
func plainNum(b []byte, most uint64) (uint64, int, api.Errno) {
	if len(b) == 0 {
		return 0, 0, api.ErrShort
	}
	wide := int(b[0])
	if wide > 8 {
		return 0, 0, api.ErrForm
	}
	if len(b) < 1+wide {
		return 0, 0, api.ErrShort
	}
	if wide > 0 && b[wide] == 0 {
		return 0, 0, api.ErrForm
	}
	var word [8]byte
	copy(word[:], b[1:1+wide])
	n := binary.LittleEndian.Uint64(word[:])
	if n > most {
		return 0, 0, api.ErrOver
	}
	return n, 1 + wide, api.OK
}

func TestTakeOfAnyBytes(t *testing.T) {
	rnd := rand.New(rand.NewSource(27))
	seen := map[api.Errno]int{}
	few := []byte{0, 0, 0, 1, 1, 1, 2, 2, 3, 4, 5, 6, 9, 15, 16, 31, 32, 64, 255}
	for range 300000 {
		b := make([]byte, rnd.Intn(12))
		for i := range b {
			b[i] = few[rnd.Intn(len(few))]
		}
		if len(b) > 0 {
			b[0] = byte(rnd.Intn(11))
		}
		want, long, wantErr := plainTake(b)
		r := code.New(string(b))
		got, err := Take(r)
		seen[err]++
		if got != want || err != wantErr {
			t.Fatalf("Take of %q = %v, %d, want %v, %d", b, got, err, want, wantErr)
		}
		if err == api.OK && (r.Left() != len(b)-long || !Check(got) || Put(got) != string(b[:long])) {
			t.Fatalf("Take of %q = %v, %d left, put again %q", b, got, r.Left(), Put(got))
		}
	}
	for _, e := range []api.Errno{api.OK, api.ErrShort, api.ErrForm, api.ErrOver} {
		if seen[e] < 1000 {
			t.Errorf("error %d came %d times only", e, seen[e])
		}
	}
}
