package page

import (
	"encoding/binary"
	"hash/crc32"
	"math"
	"math/rand"
	"strings"
	"testing"

	"tinderbox/api"
)

const (
	mostU16 = 65535
	mostU32 = 4294967295
)

// tags are such that may be, with each field at its least and at its greatest.
func tags() []api.Tag {
	return []api.Tag{
		{Kind: api.PageData, Seq: 0, Index: 0, Of: 1, Worn: 0},
		{Kind: api.PageJournal, Seq: 1 << 60, Index: 2, Of: 3, Worn: 9},
		{Kind: api.PageCheck, Seq: math.MaxUint64, Index: mostU16 - 1, Of: mostU16, Worn: mostU32},
		{Kind: api.PageData, Seq: math.MaxUint64, Index: 0, Of: mostU16, Worn: 0},
		{Kind: api.PageCheck, Seq: 0x0102030405060708, Index: 0x0a0b, Of: 0x0c0d, Worn: 0x11121314},
		{Kind: api.PageJournal, Seq: 255, Index: 254, Of: 255, Worn: 255},
		{Kind: api.PageJournal, Seq: 256, Index: 255, Of: 256, Worn: 256},
		{Kind: api.PageData, Seq: 1, Index: 0, Of: 2, Worn: mostU32},
	}
}

// wrongTags are such that may not be, each by one field.
func wrongTags() []api.Tag {
	var out []api.Tag
	for _, kind := range []int{0, -1, 4, 5, 255, 256, 257, math.MinInt, math.MaxInt} {
		out = append(out, api.Tag{Kind: kind, Of: 1})
	}
	for _, of := range []int{0, -1, mostU16 + 1, mostU16 + 2, math.MinInt, math.MaxInt} {
		out = append(out, api.Tag{Kind: 1, Of: of})
	}
	for _, index := range []int{-1, 3, 4, mostU16, mostU16 + 1, math.MinInt, math.MaxInt} {
		out = append(out, api.Tag{Kind: 2, Index: index, Of: 3})
	}
	for _, worn := range []int{-1, mostU32 + 1, mostU32 + 2, math.MinInt, math.MaxInt} {
		out = append(out, api.Tag{Kind: 3, Of: 1, Worn: worn})
	}
	return append(out,
		api.Tag{},
		api.Tag{Kind: 1, Index: 1, Of: 1},
		api.Tag{Kind: 1, Index: mostU16, Of: mostU16},
		api.Tag{Kind: 1, Index: -1, Of: 0},
		api.Tag{Kind: 1, Index: mostU16, Of: mostU16 + 1})
}

// beside lays the 28 bytes as the chapter tells them, by the library's numbers, whether they may be or not.
func beside(t api.Tag, length int) []byte {
	b := []byte{byte(t.Kind)}
	b = binary.LittleEndian.AppendUint64(b, t.Seq)
	b = binary.LittleEndian.AppendUint16(b, uint16(t.Index))
	b = binary.LittleEndian.AppendUint16(b, uint16(t.Of))
	b = binary.LittleEndian.AppendUint32(b, uint32(t.Worn))
	b = binary.LittleEndian.AppendUint16(b, uint16(length))
	return append(b, make([]byte, 28-len(b))...)
}

// checked puts the right check behind bytes that stand beside data, so that nothing else is wrong.
func checked(data string, b []byte) string {
	sum := crc32.Checksum(append([]byte(data), b...), crc32.MakeTable(crc32.Castagnoli))
	return string(b) + string(binary.LittleEndian.AppendUint32(nil, sum))
}

// mixed is n bytes, none of them 0 or 255, that follow no short pattern.
func mixed(n int) string {
	b := make([]byte, n)
	x := uint32(7)
	for i := range b {
		x = x*1664525 + 1013904223
		b[i] = byte(1 + x>>24%254)
	}
	return string(b)
}

func noughts(n int) string { return strings.Repeat("\x00", n) }

func ones(n int) string { return strings.Repeat("\xff", n) }

// with is a text in which one byte is another one.
func with(s string, at int, b byte) string {
	out := []byte(s)
	out[at] = b
	return string(out)
}

// frame is a page that may be.
func frame(t *testing.T, tag api.Tag, s string, size int) (string, string) {
	t.Helper()
	data, spare, err := Frame(tag, s, size)
	if err != api.OK {
		t.Fatalf("Frame(%v, %d bytes, %d): error %d", tag, len(s), size, err)
	}
	return data, spare
}

// looksValid asks for a page's tag, and what it says.
func looksValid(t *testing.T, data, spare string, tag api.Tag, s string) {
	t.Helper()
	class, gotTag, gotText := Look(data, spare)
	if class != api.ClassValid || gotTag != tag || gotText != s {
		t.Errorf("Look: class %d, %v, %.40q (%d bytes), want %v, %.40q (%d bytes)", class, gotTag, gotText, len(gotText), tag, s, len(s))
	}
}

// looks asks for a class beside which there is nothing.
func looks(t *testing.T, why, data, spare string, want int) {
	t.Helper()
	class, tag, s := Look(data, spare)
	if class != want || tag != (api.Tag{}) || s != "" {
		t.Errorf("%s: class %d, %v, %.40q, want %d and nothing", why, class, tag, s, want)
	}
}

func TestCheck(t *testing.T) {
	for _, tag := range tags() {
		if !Check(tag) {
			t.Errorf("Check(%v): false", tag)
		}
	}
	for _, tag := range wrongTags() {
		if Check(tag) {
			t.Errorf("Check(%v): true", tag)
		}
	}
}

func TestCheckOfEachKind(t *testing.T) {
	for kind := -300; kind <= 300; kind++ {
		want := kind == 1 || kind == 2 || kind == 3
		if got := Check(api.Tag{Kind: kind, Of: 1}); got != want {
			t.Errorf("Kind %d: %v", kind, got)
		}
	}
}

func TestCheckOfIndexAndOf(t *testing.T) {
	near := []int{-1, 0, 1, 2, 3, 254, 255, 256, mostU16 - 1, mostU16, mostU16 + 1}
	for _, of := range near {
		for _, index := range near {
			want := of >= 1 && of <= mostU16 && index >= 0 && index < of
			if got := Check(api.Tag{Kind: 1, Index: index, Of: of}); got != want {
				t.Errorf("Index %d, Of %d: %v", index, of, got)
			}
		}
	}
}

func TestFrameByHand(t *testing.T) {
	tag := api.Tag{Kind: api.PageJournal, Seq: 0x1112131415161718, Index: 0x0102, Of: 0x0304, Worn: 0x21222324}
	data, spare := frame(t, tag, "text", 64)
	if data != "text"+noughts(60) {
		t.Errorf("data: %q", data)
	}
	fields := "\x02" + "\x18\x17\x16\x15\x14\x13\x12\x11" + "\x02\x01" + "\x04\x03" + "\x24\x23\x22\x21" + "\x04\x00" + noughts(9)
	if len(spare) != api.SpareLen || spare[:28] != fields {
		t.Errorf("beside: %q, want %q", spare, fields)
	}
	sum := crc32.Checksum([]byte(data+fields), crc32.MakeTable(crc32.Castagnoli))
	if want := string([]byte{byte(sum), byte(sum >> 8), byte(sum >> 16), byte(sum >> 24)}); spare[28:] != want {
		t.Errorf("check: %q, want %q", spare[28:], want)
	}
}

func TestFrameAsTheWordsTellIt(t *testing.T) {
	for _, tag := range tags() {
		for _, size := range []int{0, 1, 2, 63, 64, 255, 256, 257, 4096, mostU16 - 1, mostU16} {
			for _, n := range []int{0, 1, 63, 255, 256, size - 1, size} {
				if n < 0 || n > size {
					continue
				}
				s := mixed(n)
				data, spare := frame(t, tag, s, size)
				if data != s+noughts(size-n) || spare != checked(data, beside(tag, n)) {
					t.Errorf("Frame(%v, %d bytes, %d): %.40q, %q", tag, n, size, data, spare)
				}
				looksValid(t, data, spare, tag, s)
			}
		}
	}
}

func TestFrameRefuses(t *testing.T) {
	good := api.Tag{Kind: 1, Of: 1}
	refused := func(tag api.Tag, s string, size int) {
		t.Helper()
		if data, spare, err := Frame(tag, s, size); err != api.ErrInput || data != "" || spare != "" {
			t.Errorf("Frame(%v, %d bytes, %d): %.40q, %q, %d", tag, len(s), size, data, spare, err)
		}
	}
	for _, tag := range wrongTags() {
		refused(tag, "", 64)
		refused(tag, "text", 64)
	}
	for _, size := range []int{-1, -2, -64, math.MinInt, mostU16 + 1, mostU16 + 2, 1 << 20, math.MaxInt} {
		refused(good, "", size)
		refused(good, "text", size)
	}
	refused(good, "a", 0)
	refused(good, mixed(65), 64)
	refused(good, mixed(64), 63)
	refused(good, mixed(mostU16+1), mostU16)
	refused(good, mixed(mostU16+1), mostU16+1)
	refused(good, mixed(mostU16+1), 64)
}

// What a page says may be any bytes: noughts at its end, and bytes 255, are told as they were.
func TestThereAndBackOfAnyBytes(t *testing.T) {
	tag := api.Tag{Kind: 3, Seq: 5, Index: 1, Of: 2, Worn: 7}
	for _, s := range []string{"\x00", noughts(64), "a" + noughts(5), noughts(5) + "a", ones(64), ones(3), "grün", "\x80\xfe", mixed(64)} {
		data, spare := frame(t, tag, s, 64)
		looksValid(t, data, spare, tag, s)
	}
}

// Pages that say the same but for the count of noughts at their end are different pages.
func TestLengthIsTold(t *testing.T) {
	for n := range 65 {
		data, spare := frame(t, api.Tag{Kind: 1, Of: 1}, noughts(n), 64)
		if data != noughts(64) || int(spare[17]) != n {
			t.Errorf("%d noughts: %q, %q", n, data, spare)
		}
		looksValid(t, data, spare, api.Tag{Kind: 1, Of: 1}, noughts(n))
	}
}

func TestLookErased(t *testing.T) {
	for _, size := range []int{0, 1, 64, 256, mostU16, mostU16 + 1} {
		for _, beside := range []int{0, 1, 31, 32, 33} {
			looks(t, "bytes 255", ones(size), ones(beside), api.ClassErased)
		}
	}
}

func TestLookNearlyErased(t *testing.T) {
	data, spare := ones(64), ones(32)
	for _, b := range []byte{0, 1, 127, 128, 254} {
		for i := range len(data) {
			looks(t, "one byte of the data", with(data, i, b), spare, api.ClassTorn)
		}
		for i := range len(spare) {
			looks(t, "one byte beside", data, with(spare, i, b), api.ClassTorn)
		}
	}
}

func TestLookOneByteIsAnother(t *testing.T) {
	data, spare := frame(t, api.Tag{Kind: 2, Seq: 1 << 60, Index: 2, Of: 3, Worn: 9}, mixed(40), 64)
	for turned := 1; turned < 256; turned++ {
		for i := range len(data) {
			looks(t, "in the data", with(data, i, data[i]^byte(turned)), spare, api.ClassTorn)
		}
		for i := range len(spare) {
			looks(t, "beside", data, with(spare, i, spare[i]^byte(turned)), api.ClassTorn)
		}
	}
}

// Each number beside the data is of the check: with another one, and the check of before, it is torn.
func TestLookAnotherTag(t *testing.T) {
	tag := api.Tag{Kind: 2, Seq: 8, Index: 2, Of: 4, Worn: 9}
	data, spare := frame(t, tag, "text", 64)
	for _, other := range []api.Tag{
		{Kind: 1, Seq: 8, Index: 2, Of: 4, Worn: 9},
		{Kind: 2, Seq: 9, Index: 2, Of: 4, Worn: 9},
		{Kind: 2, Seq: 8, Index: 1, Of: 4, Worn: 9},
		{Kind: 2, Seq: 8, Index: 2, Of: 5, Worn: 9},
		{Kind: 2, Seq: 8, Index: 2, Of: 4, Worn: 8},
	} {
		looks(t, "another number", data, string(beside(other, 4))+spare[28:], api.ClassTorn)
	}
	looks(t, "another length", data, string(beside(tag, 5))+spare[28:], api.ClassTorn)
}

// Each nought must be one, even where the check is right.
func TestLookNoughtsAreOthers(t *testing.T) {
	tag := api.Tag{Kind: 1, Seq: 3, Of: 1}
	data, _ := frame(t, tag, "text", 64)
	for _, b := range []byte{1, 128, 255} {
		for i := 4; i < 64; i++ {
			other := with(data, i, b)
			looks(t, "in the data", other, checked(other, beside(tag, 4)), api.ClassTorn)
			looksValid(t, other, checked(other, beside(tag, i+1)), tag, other[:i+1])
		}
		for i := 19; i < 28; i++ {
			fields := beside(tag, 4)
			fields[i] = b
			looks(t, "beside", data, checked(data, fields), api.ClassTorn)
		}
	}
}

func TestLookLengthBeyondTheData(t *testing.T) {
	tag := api.Tag{Kind: 1, Seq: 3, Of: 1}
	for _, size := range []int{0, 1, 64, 256} {
		data := mixed(size)
		looksValid(t, data, checked(data, beside(tag, size)), tag, data)
		for _, n := range []int{size + 1, size + 2, size + 256, mostU16} {
			looks(t, "length beyond", data, checked(data, beside(tag, n)), api.ClassTorn)
		}
	}
}

func TestLookTagThatMayNotBe(t *testing.T) {
	data := "text" + noughts(60)
	for _, tag := range []api.Tag{
		{Kind: 0, Of: 1}, {Kind: 4, Of: 1}, {Kind: 128, Of: 1}, {Kind: 255, Of: 1},
		{Kind: 1, Of: 0}, {Kind: 1, Index: 1, Of: 1}, {Kind: 1, Index: 2, Of: 1},
		{Kind: 1, Index: mostU16, Of: mostU16}, {Kind: 1, Index: mostU16, Of: 0}, {},
	} {
		looks(t, "tag", data, checked(data, beside(tag, 4)), api.ClassTorn)
	}
	looks(t, "noughts throughout", noughts(64), noughts(32), api.ClassTorn)
}

func TestLookSpareOfAnotherLength(t *testing.T) {
	tag := api.Tag{Kind: 1, Seq: 3, Of: 1}
	data, spare := frame(t, tag, "text", 64)
	for n := range 32 {
		looks(t, "too short", data, spare[:n], api.ClassTorn)
		looks(t, "its beginning is missing", data, spare[32-n:], api.ClassTorn)
	}
	for _, more := range []string{"\x00", "\xff", "a", noughts(4), noughts(32), spare} {
		looks(t, "too long", data, spare+more, api.ClassTorn)
		looks(t, "too long ahead of it", data, more+spare, api.ClassTorn)
	}
	fields := beside(tag, 4)
	looks(t, "a nought fewer, its check right", data, checked(data, fields[:27]), api.ClassTorn)
	looks(t, "no noughts, its check right", data, checked(data, fields[:19]), api.ClassTorn)
	looks(t, "a nought more, its check right", data, checked(data, append(fields, 0)), api.ClassTorn)
}

func TestLookDataOfAnotherLength(t *testing.T) {
	tag := api.Tag{Kind: 1, Seq: 3, Of: 1}
	data, spare := frame(t, tag, "text", 64)
	for n := range 64 {
		looks(t, "too short", data[:n], spare, api.ClassTorn)
	}
	for _, more := range []string{"\x00", "\xff", "a", noughts(64)} {
		looks(t, "too long", data+more, spare, api.ClassTorn)
	}
	looks(t, "the one for the other", spare, data, api.ClassTorn)
	looks(t, "parted elsewhere", data+spare[:1], spare[1:], api.ClassTorn)
}

// Frame makes no page that is longer than 65535 bytes, so none is valid, whatever its check.
func TestLookDataTooLong(t *testing.T) {
	tag := api.Tag{Kind: 1, Seq: 3, Of: 1}
	for _, size := range []int{mostU16 + 1, mostU16 + 2, 1 << 17} {
		data := "text" + noughts(size-4)
		looks(t, "too long", data, checked(data, beside(tag, 4)), api.ClassTorn)
		whole := mixed(size)
		looks(t, "too long, and says it all", whole, checked(whole, beside(tag, size)), api.ClassTorn)
	}
}

// A page whose writing was cut off is torn, wherever that was, unless it became the whole page, or an erased one.
func TestLookCutOff(t *testing.T) {
	tag := api.Tag{Kind: 2, Seq: 77, Index: 1, Of: 2, Worn: 300}
	for _, s := range []string{"", "text", mixed(64), ones(64)} {
		data, spare := frame(t, tag, s, 64)
		raw := data + spare
		for _, fill := range []string{"\x00", "\xff", "\x01", "a"} {
			for keep := range len(raw) {
				cut := raw[:keep] + strings.Repeat(fill, len(raw)-keep)
				switch cut {
				case raw:
					looksValid(t, cut[:64], cut[64:], tag, s)
				case ones(len(raw)):
					looks(t, "erased", cut[:64], cut[64:], api.ClassErased)
				default:
					looks(t, "cut off", cut[:64], cut[64:], api.ClassTorn)
				}
			}
		}
	}
}

func randomTag(r *rand.Rand) api.Tag {
	of := 1 + r.Intn([]int{1, 4, mostU16}[r.Intn(3)])
	return api.Tag{Kind: 1 + r.Intn(3), Seq: r.Uint64() >> r.Intn(64), Index: r.Intn(of), Of: of, Worn: int(r.Uint32() >> r.Intn(32))}
}

// Whatever bytes there are: a page is valid just where Frame makes these of what Look tells.
func TestJustWhatFrameMakes(t *testing.T) {
	r := rand.New(rand.NewSource(6))
	for range 20000 {
		size := r.Intn(70)
		text := make([]byte, r.Intn(size+1))
		r.Read(text)
		tag := randomTag(r)
		data, spare := frame(t, tag, string(text), size)
		looksValid(t, data, spare, tag, string(text))
		fields := beside(tag, len(text))
		fields[r.Intn(28)] = byte(r.Intn(256))
		spare = checked(data, fields)
		class, gotTag, s := Look(data, spare)
		if class != api.ClassValid {
			if mayBe(data, fields) || class != api.ClassTorn || gotTag != (api.Tag{}) || s != "" {
				t.Fatalf("%q, %q: class %d, %v, %q", data, spare, class, gotTag, s)
			}
			continue
		}
		gotData, gotSpare, err := Frame(gotTag, s, len(data))
		if !mayBe(data, fields) || err != api.OK || gotData != data || gotSpare != spare {
			t.Fatalf("%q, %q: valid, %v, %q, but framed %q, %q, %d", data, spare, gotTag, s, gotData, gotSpare, err)
		}
	}
}

// mayBe asks the bytes themselves whether they may stand beside the data, their check being right.
func mayBe(data string, b []byte) bool {
	index := binary.LittleEndian.Uint16(b[9:])
	of := binary.LittleEndian.Uint16(b[11:])
	length := int(binary.LittleEndian.Uint16(b[17:]))
	return b[0] >= 1 && b[0] <= 3 && index < of && length <= len(data) &&
		strings.Trim(data[length:], "\x00") == "" && strings.Trim(string(b[19:]), "\x00") == ""
}

func TestSameAgain(t *testing.T) {
	for _, tag := range tags() {
		data, spare := frame(t, tag, "text", 64)
		Frame(api.Tag{Kind: 3, Seq: 1, Of: 2}, "something else between", 64)
		Look(noughts(64), noughts(32))
		again, besideAgain := frame(t, tag, "text", 64)
		if again != data || besideAgain != spare {
			t.Errorf("%v: %q %q, then %q %q", tag, data, spare, again, besideAgain)
		}
		looksValid(t, data, spare, tag, "text")
	}
}
