package crc

import (
	"hash/crc32"
	"strings"
	"testing"
)

// bitwise reckons the check bit by bit, as the chapter's words tell it.
func bitwise(s string) uint32 {
	rest := ^uint32(0)
	for i := range len(s) {
		rest ^= uint32(s[i])
		for range 8 {
			low := rest & 1
			rest >>= 1
			if low == 1 {
				rest ^= 2197175160
			}
		}
	}
	return ^rest
}

// allBytes has each byte from 0 to 255 once.
func allBytes() string {
	b := make([]byte, 256)
	for i := range b {
		b[i] = byte(i)
	}
	return string(b)
}

func backwards(s string) string {
	b := make([]byte, len(s))
	for i := range b {
		b[i] = s[len(s)-1-i]
	}
	return string(b)
}

// mixed is n bytes that follow no short pattern, the same ones each time.
func mixed(n int) string {
	b := make([]byte, n)
	x := uint32(1)
	for i := range b {
		x = x*1664525 + 1013904223
		b[i] = byte(x >> 24)
	}
	return string(b)
}

// texts are ordinary ones, empty ones, and such that are no valid UTF-8.
func texts() []string {
	return []string{
		"", "a", "abc", "123456789", "the power fails in the midst of anything",
		"\x00", "\x00\x00\x00\x00", "\xff", "\xff\xff\xff\xff", "\x80\xc0\xfe",
		"grün und größer", allBytes(), backwards(allBytes()),
		strings.Repeat("\x00", 288), strings.Repeat("\xff", 288), mixed(1), mixed(255), mixed(4099),
	}
}

func TestSumOfNothing(t *testing.T) {
	if n := Sum(""); n != 0 {
		t.Errorf("Sum of nothing: %d, want 0", n)
	}
}

func TestSumOfKnownTexts(t *testing.T) {
	rising := allBytes()[:32]
	for _, c := range []struct {
		name, text string
		want       uint32
	}{
		{"digits 1 to 9", "123456789", 3808858755},
		{"a", "a", 0xc1d04330},
		{"32 noughts", strings.Repeat("\x00", 32), 0x8a9136aa},
		{"32 bytes 255", strings.Repeat("\xff", 32), 0x62a8ab43},
		{"32 bytes rising", rising, 0x46dd794e},
		{"32 bytes falling", backwards(rising), 0x113fdb5c},
	} {
		if n := Sum(c.text); n != c.want {
			t.Errorf("%s: %d, want %d", c.name, n, c.want)
		}
	}
}

func TestSumAsTheWordsTellIt(t *testing.T) {
	for _, s := range texts() {
		if n, want := Sum(s), bitwise(s); n != want {
			t.Errorf("Sum(%.20q) of %d bytes: %d, want %d", s, len(s), n, want)
		}
	}
}

func TestSumOfEachByte(t *testing.T) {
	for i := range 256 {
		s := string([]byte{byte(i)})
		if n, want := Sum(s), bitwise(s); n != want {
			t.Errorf("Sum of the byte %d: %d, want %d", i, n, want)
		}
	}
}

func TestSumAsTheLibrary(t *testing.T) {
	castagnoli := crc32.MakeTable(crc32.Castagnoli)
	all := mixed(600)
	for n := range len(all) + 1 {
		if got, want := Sum(all[:n]), crc32.Checksum([]byte(all[:n]), castagnoli); got != want {
			t.Fatalf("Sum of %d bytes: %d, want %d", n, got, want)
		}
	}
}

func TestMoreOfPairs(t *testing.T) {
	for _, a := range texts() {
		for _, b := range texts() {
			if n, want := More(Sum(a), b), Sum(a+b); n != want {
				t.Errorf("More(Sum(%.20q), %.20q): %d, want %d", a, b, n, want)
			}
		}
	}
}

func TestMoreAtEachPlace(t *testing.T) {
	for _, s := range []string{"123456789", allBytes(), mixed(300)} {
		want := bitwise(s)
		for i := range len(s) + 1 {
			if n := More(Sum(s[:i]), s[i:]); n != want {
				t.Errorf("%d bytes parted at %d: %d, want %d", len(s), i, n, want)
			}
		}
	}
}

func TestMoreByteByByte(t *testing.T) {
	for _, s := range texts() {
		var n uint32
		for i := range len(s) {
			n = More(n, s[i:i+1])
		}
		if want := bitwise(s); n != want {
			t.Errorf("%d bytes one by one: %d, want %d", len(s), n, want)
		}
	}
}

func TestMoreOfNothing(t *testing.T) {
	for _, sum := range []uint32{0, 1, 3808858755, 1 << 31, ^uint32(0)} {
		if n := More(sum, ""); n != sum {
			t.Errorf("More(%d, nothing): %d", sum, n)
		}
	}
}

// Whatever number is handed in as a check: it is that of some four bytes, so there is an answer to hold More against.
func TestMoreOfAnySum(t *testing.T) {
	castagnoli := crc32.MakeTable(crc32.Castagnoli)
	for _, sum := range []uint32{0, 1, 0x7fffffff, 0x80000000, 0xdeadbeef, ^uint32(0)} {
		for _, s := range texts() {
			if n, want := More(sum, s), crc32.Update(sum, castagnoli, []byte(s)); n != want {
				t.Errorf("More(%d, %.20q): %d, want %d", sum, s, n, want)
			}
		}
	}
}

func TestOneBitTurned(t *testing.T) {
	s := mixed(288)
	was := Sum(s)
	for i := range len(s) {
		for bit := range 8 {
			b := []byte(s)
			b[i] ^= 1 << bit
			if Sum(string(b)) == was {
				t.Errorf("byte %d, bit %d turned: the same check", i, bit)
			}
		}
	}
}

func TestSameAgain(t *testing.T) {
	for _, s := range texts() {
		first := Sum(s)
		More(first, "something else between")
		if again := Sum(s); again != first {
			t.Errorf("Sum(%.20q): %d, then %d", s, first, again)
		}
	}
}
