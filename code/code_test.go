package code

import (
	"bytes"
	"encoding/binary"
	"math"
	"strings"
	"testing"

	"tinderbox/api"
)

// edges are the least and the greatest number of each count of bytes, and those beside them.
func edges() []uint64 {
	out := []uint64{0, 1, 2, 44, 127, 128, 254, 255, 300, math.MaxUint64 - 1, math.MaxUint64}
	for bit := 8; bit < 64; bit += 8 {
		n := uint64(1) << bit
		out = append(out, n-1, n, n+1, n+n/2, n|1<<(bit-1))
	}
	return out
}

// written is a number as the chapter tells it, by the library's words of eight bytes.
func written(n uint64) string {
	low := bytes.TrimRight(binary.LittleEndian.AppendUint64(nil, n), "\x00")
	return string(append([]byte{byte(len(low))}, low...))
}

func TestNum(t *testing.T) {
	for _, c := range []struct {
		n    uint64
		want string
	}{
		{0, "\x00"},
		{1, "\x01\x01"},
		{10, "\x01\x0a"},
		{255, "\x01\xff"},
		{256, "\x02\x00\x01"},
		{300, "\x02\x2c\x01"},
		{65535, "\x02\xff\xff"},
		{65536, "\x03\x00\x00\x01"},
		{0x0102030405060708, "\x08\x08\x07\x06\x05\x04\x03\x02\x01"},
		{1 << 56, "\x08\x00\x00\x00\x00\x00\x00\x00\x01"},
		{math.MaxUint64, "\x08\xff\xff\xff\xff\xff\xff\xff\xff"},
	} {
		if got := Num(c.n); got != c.want {
			t.Errorf("Num(%d) = %q, want %q", c.n, got, c.want)
		}
	}
	for _, n := range edges() {
		if got := Num(n); got != written(n) {
			t.Errorf("Num(%d) = %q, want %q", n, got, written(n))
		}
	}
}

func TestText(t *testing.T) {
	for _, c := range []struct{ s, want string }{
		{"", "\x00"},
		{"ab", "\x01\x02ab"},
		{"\x00", "\x01\x01\x00"},
		{"\xff\xfe", "\x01\x02\xff\xfe"},
		{"é", "\x01\x02\xc3\xa9"},
		{strings.Repeat("x", 255), "\x01\xff" + strings.Repeat("x", 255)},
		{strings.Repeat("x", 256), "\x02\x00\x01" + strings.Repeat("x", 256)},
	} {
		if got := Text(c.s); got != c.want {
			t.Errorf("Text(%q) = %q, want %q", c.s, got, c.want)
		}
	}
}

func TestFixed(t *testing.T) {
	for _, c := range []struct {
		n    uint64
		wide int
		want string
	}{
		{513, 3, "\x01\x02\x00"},
		{513, 2, "\x01\x02"},
		{513, 1, "\x01"},
		{513, 0, ""},
		{0, 0, ""},
		{0, 4, "\x00\x00\x00\x00"},
		{513, -1, ""},
		{513, math.MinInt, ""},
		{0x0102030405060708, 8, "\x08\x07\x06\x05\x04\x03\x02\x01"},
		{0x0102030405060708, 7, "\x08\x07\x06\x05\x04\x03\x02"},
		{0x0102030405060708, 9, "\x08\x07\x06\x05\x04\x03\x02\x01"},
		{1, math.MaxInt, "\x01\x00\x00\x00\x00\x00\x00\x00"},
		{math.MaxUint64, 8, "\xff\xff\xff\xff\xff\xff\xff\xff"},
	} {
		if got := Fixed(c.n, c.wide); got != c.want {
			t.Errorf("Fixed(%d, %d) = %q, want %q", c.n, c.wide, got, c.want)
		}
	}
}

func TestNumsThereAndBack(t *testing.T) {
	all := edges()
	var b strings.Builder
	for _, n := range all {
		b.WriteString(Num(n))
	}
	r := New(b.String())
	for _, n := range all {
		if got := r.Num(n); got != n || r.Err() != api.OK {
			t.Fatalf("Num(%d) is read as %d, error %d", n, got, r.Err())
		}
	}
	if r.End() != api.OK || r.Left() != 0 {
		t.Error(r.End(), r.Left())
	}
}

func TestOneBehindTheOther(t *testing.T) {
	long := strings.Repeat("\x00long", 100)
	r := New(Num(300) + Text("ab") + Fixed(513, 3) + Text("") + "raw" + Num(0) + Fixed(1<<63, 8) + Text(long) + Fixed(7, 0) + Fixed(0xabcdef, 2))
	if n := r.Num(1000); n != 300 {
		t.Error(n)
	}
	if s := r.Text(2); s != "ab" {
		t.Error(s)
	}
	if n := r.Fixed(3); n != 513 {
		t.Error(n)
	}
	if s := r.Text(0); s != "" {
		t.Error(s)
	}
	if s := r.Bytes(3); s != "raw" {
		t.Error(s)
	}
	if n := r.Num(0); n != 0 {
		t.Error(n)
	}
	if n := r.Fixed(8); n != 1<<63 {
		t.Error(n)
	}
	if s := r.Text(len(long)); s != long {
		t.Error(s)
	}
	if n := r.Fixed(0); n != 0 || r.Left() != 2 || r.End() != api.ErrExtra {
		t.Error(n, r.Left(), r.End())
	}
	if n := r.Fixed(2); n != 0xcdef {
		t.Error(n)
	}
	if r.Err() != api.OK || r.End() != api.OK || r.Left() != 0 {
		t.Error(r.Err(), r.End(), r.Left())
	}
}

func TestReaderNum(t *testing.T) {
	top := uint64(math.MaxUint64)
	for _, c := range []struct {
		name string
		s    string
		most uint64
		want uint64
		err  api.Errno
	}{
		{"nothing there", "", top, 0, api.ErrShort},
		{"its bytes are not there", "\x02", top, 0, api.ErrShort},
		{"one byte of two", "\x02\x05", top, 0, api.ErrShort},
		{"one byte of two, and that is 0", "\x02\x00", top, 0, api.ErrShort},
		{"one byte of two, and that is above the limit", "\x02\x05", 4, 0, api.ErrShort},
		{"seven bytes of eight", "\x08\x01\x02\x03\x04\x05\x06\x07", top, 0, api.ErrShort},
		{"says nine bytes, none there", "\x09", top, 0, api.ErrForm},
		{"says nine bytes, one there", "\x09\x01", top, 0, api.ErrForm},
		{"says nine bytes, all there", "\x09\x01\x01\x01\x01\x01\x01\x01\x01\x01", top, 0, api.ErrForm},
		{"says nine bytes above the limit", "\x09\x01\x01\x01\x01\x01\x01\x01\x01\x01", 0, 0, api.ErrForm},
		{"says 255 bytes", "\xff\x01", top, 0, api.ErrForm},
		{"the last of one is 0", "\x01\x00", top, 0, api.ErrForm},
		{"the last of two is 0", "\x02\x05\x00", top, 0, api.ErrForm},
		{"the last is 0, and it is above the limit", "\x02\x05\x00", 4, 0, api.ErrForm},
		{"the last of eight is 0", "\x08\x01\x01\x01\x01\x01\x01\x01\x00", top, 0, api.ErrForm},
		{"one above the limit", "\x01\x0b", 10, 0, api.ErrOver},
		{"one above none", "\x01\x01", 0, 0, api.ErrOver},
		{"more bytes than the limit has", "\x02\x00\x01", 255, 0, api.ErrOver},
		{"the greatest, above the one before it", "\x08\xff\xff\xff\xff\xff\xff\xff\xff", top - 1, 0, api.ErrOver},
		{"the limit", "\x01\x0a", 10, 10, api.OK},
		{"none, at the limit", "\x00", 0, 0, api.OK},
		{"below the limit", "\x02\x2c\x01", 1000, 300, api.OK},
		{"a 0 that is not the last", "\x02\x00\x01", top, 256, api.OK},
		{"the greatest", "\x08\xff\xff\xff\xff\xff\xff\xff\xff", top, top, api.OK},
		{"bytes behind it", "\x01\x0a\x09", 10, 10, api.OK},
	} {
		r := New(c.s)
		if got := r.Num(c.most); got != c.want || r.Err() != c.err {
			t.Errorf("%s: Num(%d) = %d, error %d, want %d, %d", c.name, c.most, got, r.Err(), c.want, c.err)
		}
	}
}

func TestReaderText(t *testing.T) {
	for _, c := range []struct {
		name string
		s    string
		most int
		want string
		err  api.Errno
	}{
		{"as long as may be", "\x01\x02ab", 2, "ab", api.OK},
		{"shorter than may be", "\x01\x02ab", math.MaxInt, "ab", api.OK},
		{"empty", "\x00", 0, "", api.OK},
		{"empty, most below 0", "\x00", -1, "", api.OK},
		{"empty, most the least", "\x00", math.MinInt, "", api.OK},
		{"bytes behind it", "\x01\x02abc", 9, "ab", api.OK},
		{"one byte too long", "\x01\x03abc", 2, "", api.ErrOver},
		{"too long, and not all there", "\x01\x03a", 2, "", api.ErrOver},
		{"most 0", "\x01\x01a", 0, "", api.ErrOver},
		{"most below 0", "\x01\x01a", -1, "", api.ErrOver},
		{"most the least", "\x01\x01a", math.MinInt, "", api.ErrOver},
		{"longer than any text", "\x08\xff\xff\xff\xff\xff\xff\xff\xff", math.MaxInt, "", api.ErrOver},
		{"not all there", "\x01\x03ab", 3, "", api.ErrShort},
		{"the longest, not there", "\x08\xff\xff\xff\xff\xff\xff\xff\x7f", math.MaxInt, "", api.ErrShort},
		{"nothing there", "", 3, "", api.ErrShort},
		{"no length there", "\x02\x03", 3, "", api.ErrShort},
		{"a length of nine bytes", "\x09\x03", 3, "", api.ErrForm},
		{"a length whose last byte is 0", "\x02\x03\x00abc", 3, "", api.ErrForm},
		{"a length whose last byte is 0, too long", "\x02\x03\x00abc", 2, "", api.ErrForm},
	} {
		r := New(c.s)
		if got := r.Text(c.most); got != c.want || r.Err() != c.err {
			t.Errorf("%s: Text(%d) = %q, error %d, want %q, %d", c.name, c.most, got, r.Err(), c.want, c.err)
		}
	}
}

func TestReaderBytes(t *testing.T) {
	for _, c := range []struct {
		s    string
		n    int
		want string
		left int
		err  api.Errno
	}{
		{"abc", 0, "", 3, api.OK},
		{"abc", 2, "ab", 1, api.OK},
		{"abc", 3, "abc", 0, api.OK},
		{"", 0, "", 0, api.OK},
		{"\x00\xff", 2, "\x00\xff", 0, api.OK},
		{"abc", 4, "", 0, api.ErrShort},
		{"", 1, "", 0, api.ErrShort},
		{"abc", math.MaxInt, "", 0, api.ErrShort},
		{"abc", -1, "", 0, api.ErrShort},
		{"", -1, "", 0, api.ErrShort},
		{"abc", math.MinInt, "", 0, api.ErrShort},
	} {
		r := New(c.s)
		if got := r.Bytes(c.n); got != c.want || r.Left() != c.left || r.Err() != c.err {
			t.Errorf("Bytes(%d) of %q = %q, %d left, error %d, want %q, %d, %d", c.n, c.s, got, r.Left(), r.Err(), c.want, c.left, c.err)
		}
	}
}

func TestReaderFixed(t *testing.T) {
	for _, c := range []struct {
		s    string
		wide int
		want uint64
		left int
		err  api.Errno
	}{
		{"\x01\x02\x03", 2, 513, 1, api.OK},
		{"\x01\x02\x00", 3, 513, 0, api.OK},
		{"\x00\x00", 2, 0, 0, api.OK},
		{"\x01", 0, 0, 1, api.OK},
		{"\x01", -1, 0, 1, api.OK},
		{"\x01", math.MinInt, 0, 1, api.OK},
		{"\x08\x07\x06\x05\x04\x03\x02\x01", 8, 0x0102030405060708, 0, api.OK},
		{"\x08\x07\x06\x05\x04\x03\x02\x01\x09", 9, 0x0102030405060708, 1, api.OK},
		{"\xff\xff\xff\xff\xff\xff\xff\xff\xff", math.MaxInt, math.MaxUint64, 1, api.OK},
		{"\x01\x02", 3, 0, 0, api.ErrShort},
		{"", 1, 0, 0, api.ErrShort},
		{"\x01\x02\x03\x04\x05\x06\x07", 9, 0, 0, api.ErrShort},
	} {
		r := New(c.s)
		if got := r.Fixed(c.wide); got != c.want || r.Left() != c.left || r.Err() != c.err {
			t.Errorf("Fixed(%d) of %q = %d, %d left, error %d, want %d, %d, %d", c.wide, c.s, got, r.Left(), r.Err(), c.want, c.left, c.err)
		}
	}
}

// silent asks all that a reader with an error, or none at all, can be asked: only the error is told, time and again.
func silent(t *testing.T, name string, r *Reader, want api.Errno) {
	t.Helper()
	for range 2 {
		if err := r.Err(); err != want {
			t.Errorf("%s: Err() = %d, want %d", name, err, want)
		}
		if n := r.Left(); n != 0 {
			t.Errorf("%s: Left() = %d", name, n)
		}
		if err := r.End(); err != want {
			t.Errorf("%s: End() = %d, want %d", name, err, want)
		}
		if n := r.Num(math.MaxUint64); n != 0 {
			t.Errorf("%s: Num = %d", name, n)
		}
		if s := r.Text(math.MaxInt); s != "" {
			t.Errorf("%s: Text = %q", name, s)
		}
		for _, n := range []int{-1, 0, 1, 9, math.MaxInt} {
			if s := r.Bytes(n); s != "" {
				t.Errorf("%s: Bytes(%d) = %q", name, n, s)
			}
			if v := r.Fixed(n); v != 0 {
				t.Errorf("%s: Fixed(%d) = %d", name, n, v)
			}
		}
	}
}

func TestTheFirstErrorStays(t *testing.T) {
	good := Num(5) + Text("more") + Fixed(6, 8)
	for _, c := range []struct {
		name string
		s    string
		read func(r *Reader)
		want api.Errno
	}{
		{"a number that is not there", "", func(r *Reader) { r.Num(9) }, api.ErrShort},
		{"a number of nine bytes", "\x09" + good, func(r *Reader) { r.Num(9) }, api.ErrForm},
		{"a number whose last byte is 0", "\x01\x00" + good, func(r *Reader) { r.Num(9) }, api.ErrForm},
		{"a number above its limit", Num(10) + good, func(r *Reader) { r.Num(9) }, api.ErrOver},
		{"a text above its limit", Text("abc") + good, func(r *Reader) { r.Text(2) }, api.ErrOver},
		{"a text that is not there", Num(100) + good, func(r *Reader) { r.Text(100) }, api.ErrShort},
		{"more bytes than are left", good, func(r *Reader) { r.Bytes(len(good) + 1) }, api.ErrShort},
		{"fewer than no bytes", good, func(r *Reader) { r.Bytes(-1) }, api.ErrShort},
		{"a fixed number that is not there", "abc", func(r *Reader) { r.Fixed(4) }, api.ErrShort},
		{"the second of two", Num(1) + Num(10) + good, func(r *Reader) { r.Num(9); r.Num(9) }, api.ErrOver},
	} {
		r := New(c.s)
		c.read(r)
		silent(t, c.name, r, c.want)
	}
}

func TestNoReader(t *testing.T) {
	silent(t, "nil", nil, api.ErrInput)
}

func TestReaderLeftAndEnd(t *testing.T) {
	r := New(Num(300) + "xy")
	for i, want := range []int{5, 2, 1, 0} {
		if i == 1 {
			r.Num(1000)
		} else if i > 1 {
			r.Bytes(1)
		}
		end := api.ErrExtra
		if want == 0 {
			end = api.OK
		}
		if r.Left() != want || r.End() != end || r.Err() != api.OK {
			t.Errorf("step %d: %d left, end %d, error %d, want %d, %d", i, r.Left(), r.End(), r.Err(), want, end)
		}
	}
	if r := New(""); r.Left() != 0 || r.End() != api.OK || r.Err() != api.OK {
		t.Error(r.Left(), r.End(), r.Err())
	}
}

// What is read as a number is written as the same bytes again: no number has two ways to be written.
func TestOneWayToWriteANumber(t *testing.T) {
	for count := range 256 {
		for _, low := range []byte{0, 1, 255} {
			for _, high := range []byte{0, 1, 128, 255} {
				s := string([]byte{byte(count), low, high})
				r := New(s)
				n := r.Num(math.MaxUint64)
				if r.Err() == api.OK && Num(n) != s[:len(s)-r.Left()] {
					t.Errorf("%q is read as %d, which is written %q", s, n, Num(n))
				}
			}
		}
	}
}
