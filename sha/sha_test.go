package sha

import (
	"crypto/sha256"
	"encoding/hex"
	"strings"
	"testing"

	"tinderbox/api"
)

// stirred is n bytes that follow no short pattern, the same ones each time.
func stirred(n int) string {
	b := make([]byte, n)
	x := uint32(7)
	for i := range b {
		x = x*1664525 + 1013904223
		b[i] = byte(x >> 24)
	}
	return string(b)
}

// allBytes has each byte from 0 to 255 once.
func allBytes() string {
	b := make([]byte, 256)
	for i := range b {
		b[i] = byte(i)
	}
	return string(b)
}

func library(t string) string {
	d := sha256.Sum256([]byte(t))
	return string(d[:])
}

func TestSumOfKnownTexts(t *testing.T) {
	for _, c := range []struct{ name, text, want string }{
		{"nothing", "", "e3b0c44298fc1c149afbf4c8996fb92427ae41e4649b934ca495991b7852b855"},
		{"abc", "abc", "ba7816bf8f01cfea414140de5dae2223b00361a396177a9cb410ff61f20015ad"},
		{"448 bits", "abcdbcdecdefdefgefghfghighijhijkijkljklmklmnlmnomnopnopq", "248d6a61d20638b8e5c026930c3e6039a33ce45964ff2167f6ecedd419db06c1"},
		{"a million a", strings.Repeat("a", 1000000), "cdc76e5c9914fb9281a1c7e284d73e67f1809a48a497200e046d39ccc7112cd0"},
	} {
		want, err := hex.DecodeString(c.want)
		if err != nil {
			t.Fatal(err)
		}
		if got := Sum(c.text); got != string(want) {
			t.Errorf("Sum of %s: %x, want %s", c.name, got, c.want)
		}
	}
}

// All lengths up to five blocks: those at which the filling takes a block more (56, 120, ..) are among them.
func TestSumOfEveryLength(t *testing.T) {
	kinds := map[string]string{
		"stirred":   stirred(330),
		"noughts":   strings.Repeat("\x00", 330),
		"bytes 128": strings.Repeat("\x80", 330),
		"bytes 255": strings.Repeat("\xff", 330),
	}
	for name, all := range kinds {
		for n := range len(all) + 1 {
			if got, want := Sum(all[:n]), library(all[:n]); got != want {
				t.Errorf("Sum of %d %s: %x, want %x", n, name, got, want)
			}
		}
	}
}

func TestSumAroundWholeBlocks(t *testing.T) {
	all := stirred(70000)
	for _, whole := range []int{64, 128, 1024, 4096, 8192, 65536} {
		for n := whole - 10; n <= whole+1; n++ {
			if got, want := Sum(all[:n]), library(all[:n]); got != want {
				t.Errorf("Sum of %d bytes: %x, want %x", n, got, want)
			}
		}
	}
}

// The length in bits takes more than its lowest four bytes only from 2^29 bytes on; the filling is asked here, since such a text is long to reckon.
func TestLengthBehindTheFilling(t *testing.T) {
	for _, c := range []struct {
		length int
		want   string
	}{
		{0, "0000000000000000"},
		{1, "0000000000000008"},
		{1 << 21, "0000000001000000"},
		{1 << 29, "0000000100000000"},
		{1<<31 - 1, "00000003fffffff8"},
	} {
		end := filledUp("", c.length)
		if got := hex.EncodeToString([]byte(end[len(end)-8:])); got != c.want || len(end) != 64 {
			t.Errorf("length %d: %s in %d bytes, want %s in 64", c.length, got, len(end), c.want)
		}
	}
}

func TestSumIs32Bytes(t *testing.T) {
	for _, n := range []int{0, 1, 31, 32, 33, 55, 56, 63, 64, 65, 119, 120, 1000} {
		if got := len(Sum(stirred(n))); got != 32 {
			t.Errorf("Sum of %d bytes has %d bytes, want 32", n, got)
		}
	}
}

func TestSumOfOneBitTurned(t *testing.T) {
	s := stirred(70)
	seen := map[string]bool{Sum(s): true}
	for i := range len(s) {
		for bit := range 8 {
			b := []byte(s)
			b[i] ^= 1 << bit
			d := Sum(string(b))
			if seen[d] {
				t.Errorf("byte %d, bit %d turned: a digest that was there", i, bit)
			}
			seen[d] = true
		}
	}
}

func TestSumTheSameAgain(t *testing.T) {
	for _, s := range []string{"", "abc", stirred(64), stirred(200)} {
		first := Sum(s)
		Sum("something else between")
		if again := Sum(s); again != first {
			t.Errorf("Sum of %d bytes: %x, then %x", len(s), first, again)
		}
	}
}

func TestPrimes(t *testing.T) {
	got := firstPrimes()
	have := 0
	for n := uint64(2); have < len(got); n++ {
		prime := true
		for d := uint64(2); d < n; d++ {
			prime = prime && n%d != 0
		}
		if prime {
			if got[have] != n {
				t.Errorf("prime %d: %d, want %d", have, got[have], n)
			}
			have++
		}
	}
}

func TestHexOfKnownBytes(t *testing.T) {
	for _, c := range []struct{ bytes, want string }{
		{"", ""},
		{"\x00", "00"},
		{"\x09\x0a\x0f\x10", "090a0f10"},
		{"\x00\xff\x7a", "00ff7a"},
		{"abc", "616263"},
		{"é", "c3a9"},
	} {
		if got := Hex(c.bytes); got != c.want {
			t.Errorf("Hex(%q): %q, want %q", c.bytes, got, c.want)
		}
	}
}

func TestHexOfEachByte(t *testing.T) {
	for i := range 256 {
		s := string([]byte{byte(i)})
		if got, want := Hex(s), hex.EncodeToString([]byte(s)); got != want {
			t.Errorf("Hex of the byte %d: %q, want %q", i, got, want)
		}
	}
}

func TestThereAndBack(t *testing.T) {
	texts := []string{"", "a", allBytes(), stirred(1), stirred(999), strings.Repeat("\x00", 50), Sum("abc")}
	for i := range 256 {
		texts = append(texts, string([]byte{byte(i)}), string([]byte{byte(i), byte(255 - i)}))
	}
	for _, s := range texts {
		got, e := Bytes(Hex(s))
		if e != api.OK || got != s {
			t.Errorf("Bytes(Hex(%.20q)): %.20q, %d", s, got, e)
		}
	}
}

func TestBackAndThere(t *testing.T) {
	for _, h := range []string{"", "00", "0123456789abcdef", "ff00ff", strings.Repeat("a5", 300)} {
		s, e := Bytes(h)
		if e != api.OK || len(s) != len(h)/2 || Hex(s) != h {
			t.Errorf("Bytes(%.20q): %.20q, %d", h, s, e)
		}
	}
}

// An odd number is named first: it is told even where something is no digit.
func TestBytesOfAnOddNumber(t *testing.T) {
	for _, h := range []string{"0", "f", "000", "abc", "00000", strings.Repeat("0", 65), "G", "0G0", "A", " 00", "00\n", "é0"} {
		if s, e := Bytes(h); s != "" || e != api.ErrShort {
			t.Errorf("Bytes(%q): %q, %d, want nothing and ErrShort", h, s, e)
		}
	}
}

func TestBytesOfWhatIsNoDigit(t *testing.T) {
	for _, h := range []string{"0G", "g0", "0x", "0x00", "FF", "aA", "Aa", "00 0", " 0", "-1", "+1", "0:", "/0", "0`", "é", "\x00\x00", "\xff0", "00ff0g", "0g00ff", "００"} {
		if s, e := Bytes(h); s != "" || e != api.ErrForm {
			t.Errorf("Bytes(%q): %q, %d, want nothing and ErrForm", h, s, e)
		}
	}
}

// Each byte in the place of each of the two digits, behind others that are good.
func TestBytesOfEachByteAsDigit(t *testing.T) {
	for i := range 256 {
		c := string([]byte{byte(i)})
		value := strings.Index("0123456789abcdef", c)
		for _, p := range []struct {
			hex  string
			want byte
		}{{"7e" + c + "0", byte(value) << 4}, {"7e0" + c, byte(value)}} {
			s, e := Bytes(p.hex)
			if value < 0 && (s != "" || e != api.ErrForm) {
				t.Errorf("Bytes(%q): %q, %d, want nothing and ErrForm", p.hex, s, e)
			}
			if value >= 0 && (s != string([]byte{0x7e, p.want}) || e != api.OK) {
				t.Errorf("Bytes(%q): %q, %d", p.hex, s, e)
			}
		}
	}
}
