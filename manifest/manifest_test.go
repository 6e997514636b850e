package manifest

import (
	"crypto/sha256"
	"encoding/hex"
	"math"
	"math/rand"
	"slices"
	"strconv"
	"strings"
	"testing"

	"tinderbox/api"
	"tinderbox/code"
)

// The digests of abc and of nothing, by digits.
const (
	digestABC  = "ba7816bf8f01cfea414140de5dae2223b00361a396177a9cb410ff61f20015ad"
	digestNone = "e3b0c44298fc1c149afbf4c8996fb92427ae41e4649b934ca495991b7852b855"
)

// bytesOf is the bytes that digits say, by the library.
func bytesOf(t *testing.T, digits string) string {
	t.Helper()
	b, err := hex.DecodeString(digits)
	if err != nil {
		t.Fatal(err)
	}
	return string(b)
}

// counting is n bytes: first, and each one more than the one ahead.
func counting(n int, first byte) string {
	b := make([]byte, n)
	for i := range b {
		b[i] = first + byte(i)
	}
	return string(b)
}

// edges are manifests that may be, at and beside each limit, with digests of all kinds of bytes.
func edges() []api.Manifest {
	var out []api.Manifest
	digests := []string{strings.Repeat("\x00", 32), strings.Repeat("\xff", 32), strings.Repeat("\n", 32), counting(32, 0), counting(32, 200), strings.Repeat("é", 16)}
	for _, v := range []int{1, 2, 9, 10, 255, 256, 300, 65535, 65536, 1073741823, 1073741824} {
		for _, l := range []int{0, 1, 9, 10, 255, 256, 65536, 1048575, 1048576} {
			for _, d := range digests {
				out = append(out, api.Manifest{Version: v, Length: l, Digest: d})
			}
		}
	}
	return out
}

// odd are manifests that may not be.
func odd() []api.Manifest {
	d := counting(32, 7)
	return []api.Manifest{
		{},
		{Version: 1, Length: 1},
		{Length: 1, Digest: d},
		{Version: -1, Length: 1, Digest: d},
		{Version: math.MinInt, Length: 1, Digest: d},
		{Version: 1073741825, Length: 1, Digest: d},
		{Version: math.MaxInt, Length: 1, Digest: d},
		{Version: 1, Length: -1, Digest: d},
		{Version: 1, Length: math.MinInt, Digest: d},
		{Version: 1, Length: 1048577, Digest: d},
		{Version: 1, Length: math.MaxInt, Digest: d},
		{Version: 1, Length: 1, Digest: d[:31]},
		{Version: 1, Length: 1, Digest: d + "x"},
		{Version: 1, Length: 1, Digest: d[:1]},
		{Version: 1, Length: 1, Digest: d + d},
		{Version: 1, Length: 1, Digest: hex.EncodeToString([]byte(d))},
		{Version: 1, Length: 1, Digest: strings.Repeat("é", 32)},
		{Version: 1073741825, Length: 1048577, Digest: d + "x"},
	}
}

func TestCheck(t *testing.T) {
	for _, m := range edges() {
		if !Check(m) {
			t.Errorf("Check(%#v): false", m)
		}
	}
	for _, m := range odd() {
		if Check(m) {
			t.Errorf("Check(%#v): true", m)
		}
	}
}

func TestOfKnownImages(t *testing.T) {
	for _, c := range []struct {
		version       int
		image, digest string
	}{
		{1, "", digestNone},
		{3, "abc", digestABC},
		{1073741824, "abc", digestABC},
	} {
		want := api.Manifest{Version: c.version, Length: len(c.image), Digest: bytesOf(t, c.digest)}
		if m := Of(c.version, c.image); m != want || !Check(m) {
			t.Errorf("Of(%d, %q) = %#v, want %#v", c.version, c.image, m, want)
		}
	}
}

func TestOfEachLength(t *testing.T) {
	long := counting(1048577, 5)
	lengths := []int{1000, 4096, 65535, 65536, 1048575, 1048576, 1048577}
	for n := range 140 {
		lengths = append(lengths, n)
	}
	for _, n := range lengths {
		sum := sha256.Sum256([]byte(long[:n]))
		want := api.Manifest{Version: 7, Length: n, Digest: string(sum[:])}
		if m := Of(7, long[:n]); m != want {
			t.Errorf("Of(7, %d bytes) = %#v, want %#v", n, m, want)
		}
		if may := Check(Of(7, long[:n])); may != (n <= 1048576) {
			t.Errorf("Check of an image of %d bytes: %t", n, may)
		}
	}
}

// A length is told in bytes, whatever signs they make.
func TestOfBytes(t *testing.T) {
	for _, image := range []string{"é", "\xff\xfe", "a\x00b", "\n", "\x00\x00"} {
		if m := Of(1, image); m.Length != len(image) {
			t.Errorf("Of(1, %q): length %d, want %d", image, m.Length, len(image))
		}
	}
	if Of(1, "a") == Of(1, "b") || Of(1, "") == Of(1, "\x00") {
		t.Error("two images, one manifest")
	}
}

// A version that may not be is told as it was handed in.
func TestOfOtherVersions(t *testing.T) {
	for _, v := range []int{0, -1, math.MinInt, 1073741825, math.MaxInt} {
		want := api.Manifest{Version: v, Length: 3, Digest: bytesOf(t, digestABC)}
		if m := Of(v, "abc"); m != want || Check(m) {
			t.Errorf("Of(%d, abc) = %#v, want %#v, which may not be", v, m, want)
		}
	}
}

func TestCountOfCounts(t *testing.T) {
	for _, c := range []struct {
		w    string
		want int
	}{
		{"0", 0}, {"1", 1}, {"9", 9}, {"10", 10}, {"100", 100}, {"907", 907}, {"1234567890", 1234567890},
		{"999999999", 999999999}, {"1000000000", 1000000000}, {"2147483639", 2147483639}, {"2147483640", 2147483640},
		{"2147483646", 2147483646}, {"2147483647", 2147483647},
	} {
		if n, ok := Count(c.w); n != c.want || !ok {
			t.Errorf("Count(%q) = %d, %t, want %d", c.w, n, ok, c.want)
		}
	}
}

func TestCountOfOtherWords(t *testing.T) {
	words := []string{
		"", " ", "-", "+", ".", "-0", "+0", "-1", "+1", "1-", "1+", "1.", ".1", "1.0", "1e3", "0x1", "0b1", "1_0", "1,0",
		" 1", "1 ", "1 2", "\t1", "1\n", "\n1", "1\r", "a", "1a", "a1", "f", "O", "l",
		"00", "01", "000", "007", "010", "0123", "02147483647", "00000000000000000000", "00000000000000000001", strings.Repeat("0", 5000) + "1",
		"2147483648", "2147483649", "2147483650", "2147483657", "2147483700", "2147484000", "2150000000", "2200000000", "3000000000", "4294967295",
		"4294967296", "4294967297", "4294967306", "9999999999", "10000000000", "21474836470", "21474836480", "42949672960",
		"9223372036854775807", "9223372036854775808", "18446744073709551615", "18446744073709551616", "18446744073709551617", "18446744073709551626",
		"36893488147419103233", "340282366920938463463374607431768211457",
		"1" + strings.Repeat("0", 100), strings.Repeat("1", 1000), strings.Repeat("9", 100000), "2147483647a", "2147483648a", strings.Repeat("9", 30) + "a",
		"\x00", "1\x00", "\x001", "\xff", "1\xff", "\xb1", "/", ":", "1/", "1:",
		"\u00b2", "1\u00b2", "\u0661", "1\u0661", "\u06f1", "\u0967", "\uff11", "\U0001d7ce", "\u2460", "\ufeff1", "1\u00a0", "\u0131", "\ufffd", "\U00010030", "\u0130",
	}
	for _, w := range words {
		if n, ok := Count(w); n != 0 || ok {
			t.Errorf("Count(%.40q) = %d, %t, want 0 and false", w, n, ok)
		}
	}
}

// Each byte and each sign of two bytes, alone and ahead of, between and behind digits.
func TestCountOfEachSign(t *testing.T) {
	var signs []string
	for i := range 256 {
		signs = append(signs, string([]byte{byte(i)}))
	}
	for i := rune(128); i < 2048; i++ {
		signs = append(signs, string(i))
	}
	for _, s := range signs {
		for _, w := range []string{s, s + "7", "7" + s, "7" + s + "7", s + s} {
			want, is := plainCount(w)
			if n, ok := Count(w); n != want || ok != is {
				t.Errorf("Count(%q) = %d, %t, want %d, %t", w, n, ok, want, is)
			}
		}
	}
}

// All words of up to five of these signs.
func TestCountOfShortWords(t *testing.T) {
	words := []string{""}
	for from := 0; len(words) < 5000; {
		to := len(words)
		for ; from < to; from++ {
			for _, s := range "019- a" {
				words = append(words, words[from]+string(s))
			}
		}
	}
	for _, w := range words {
		want, is := plainCount(w)
		if n, ok := Count(w); n != want || ok != is {
			t.Errorf("Count(%q) = %d, %t, want %d, %t", w, n, ok, want, is)
		}
	}
}

// Around the limit, and around numbers whose low bits alone would be a count.
func TestCountAroundLimits(t *testing.T) {
	for _, high := range []uint64{0, 1 << 31, 1 << 32, 1<<32 + 1<<31, 1 << 33, 1 << 63, 1<<63 + 1<<62, 1<<64 - 50} {
		for low := range uint64(40) {
			for _, n := range []uint64{high + low, high - low} {
				w := strconv.FormatUint(n, 10)
				want, is := plainCount(w)
				if got, ok := Count(w); got != want || ok != is {
					t.Errorf("Count(%q) = %d, %t, want %d, %t", w, got, ok, want, is)
				}
			}
		}
	}
}

func TestDigits(t *testing.T) {
	for _, c := range []struct {
		n    int
		want string
	}{
		{0, "0"}, {1, "1"}, {9, "9"}, {10, "10"}, {100, "100"}, {1048576, "1048576"}, {1073741824, "1073741824"}, {2147483647, "2147483647"},
		{-1, "-1"}, {-9, "-9"}, {-10, "-10"}, {-12, "-12"}, {-2147483648, "-2147483648"},
	} {
		if got := Digits(c.n); got != c.want {
			t.Errorf("Digits(%d) = %q", c.n, got)
		}
	}
	for _, n := range []int{math.MinInt, math.MinInt + 1, math.MaxInt - 1, math.MaxInt} {
		if got := Digits(n); got != strconv.Itoa(n) {
			t.Errorf("Digits(%d) = %q", n, got)
		}
	}
}

func TestCountTakesDigitsBack(t *testing.T) {
	counts := []int{2147483645, 2147483646, 2147483647, 1073741823, 1073741824, 1073741825}
	for n := range 3000 {
		counts = append(counts, n)
	}
	for n := 10; n <= 1000000000; n *= 10 {
		counts = append(counts, n-1, n, n+1, n+n/2)
	}
	for _, n := range counts {
		if got, ok := Count(Digits(n)); got != n || !ok {
			t.Errorf("Count(Digits(%d)) = %d, %t", n, got, ok)
		}
		if got, ok := Count(Digits(-1 - n)); got != 0 || ok {
			t.Errorf("Count(Digits(%d)) = %d, %t", -1-n, got, ok)
		}
	}
}

func TestText(t *testing.T) {
	for _, c := range []struct {
		m    api.Manifest
		want string
	}{
		{Of(3, "abc"), "tinderbox image\nversion 3\nlength 3\ndigest " + digestABC + "\n"},
		{Of(1, ""), "tinderbox image\nversion 1\nlength 0\ndigest " + digestNone + "\n"},
		{api.Manifest{Version: 1073741824, Length: 1048576, Digest: counting(32, 0)}, "tinderbox image\nversion 1073741824\nlength 1048576\ndigest 000102030405060708090a0b0c0d0e0f101112131415161718191a1b1c1d1e1f\n"},
	} {
		if got := Text(c.m); got != c.want {
			t.Errorf("Text(%#v) = %q, want %q", c.m, got, c.want)
		}
	}
}

func TestParseTakesTextBack(t *testing.T) {
	for _, m := range edges() {
		if got, at, e := Parse(Text(m)); got != m || at != 0 || e != api.OK {
			t.Errorf("Parse(%q) = %#v, %d, %d, want %#v", Text(m), got, at, e, m)
		}
	}
}

// What may not be is told as it stands, so that Parse refuses it by the first line that may not be.
func TestTextOfOddOnes(t *testing.T) {
	d := counting(32, 0)
	digits := hex.EncodeToString([]byte(d))
	for _, c := range []struct {
		m    api.Manifest
		want string
		at   int
	}{
		{api.Manifest{}, "tinderbox image\nversion 0\nlength 0\ndigest \n", 2},
		{api.Manifest{Version: -3, Length: -4, Digest: d}, "tinderbox image\nversion -3\nlength -4\ndigest " + digits + "\n", 2},
		{api.Manifest{Version: 1073741825, Length: 2, Digest: d}, "tinderbox image\nversion 1073741825\nlength 2\ndigest " + digits + "\n", 2},
		{api.Manifest{Version: 1, Length: 1048577, Digest: d}, "tinderbox image\nversion 1\nlength 1048577\ndigest " + digits + "\n", 3},
		{api.Manifest{Version: 1, Length: 2, Digest: d + "\xff"}, "tinderbox image\nversion 1\nlength 2\ndigest " + digits + "ff\n", 4},
		{api.Manifest{Version: 1, Length: 2, Digest: d[:31]}, "tinderbox image\nversion 1\nlength 2\ndigest " + digits[:62] + "\n", 4},
	} {
		if got := Text(c.m); got != c.want {
			t.Errorf("Text(%#v) = %q, want %q", c.m, got, c.want)
		}
		refused(t, c.want, c.at)
	}
	for _, m := range odd() {
		if got, at, e := Parse(Text(m)); got != (api.Manifest{}) || at == 0 || e != api.ErrLine {
			t.Errorf("Parse(Text(%#v)) = %#v, %d, %d", m, got, at, e)
		}
	}
}

// refused asks Parse of a text in which that line is the first one that is wrong.
func refused(t *testing.T, s string, want int) {
	t.Helper()
	if m, at, e := Parse(s); m != (api.Manifest{}) || at != want || e != 200 {
		t.Errorf("Parse(%q) = %#v, %d, %d, want line %d", s, m, at, e, want)
	}
}

// goodLines are the four lines of a manifest.
func goodLines() []string {
	return []string{"tinderbox image\n", "version 3\n", "length 3\n", "digest " + digestABC + "\n"}
}

// wrongLines are, for each of the four lines, others that may not stand in its place.
func wrongLines() [][]string {
	return [][]string{
		{
			"\n", " \n", "tinderbox\n", "image\n", "tinderbox image x\n", "tinderbox image 1\n", "tinderbox  image\n", " tinderbox image\n", "tinderbox image \n",
			"Tinderbox image\n", "tinderbox Image\n", "TINDERBOX IMAGE\n", "tinderboximage\n", "tinderbox images\n", "tinderbox imag\n", "xtinderbox image\n",
			"tinderbox\timage\n", "tinderbox\u00a0image\n", "tinderbox image\r\n", "tinderbox image\x00\n", "\ufefftinderbox image\n", "tinderbox image version 3\n",
		},
		{
			"\n", "version\n", "version \n", "3\n", " 3\n", "version 3 4\n", "version 3 \n", "version  3\n", " version 3\n", "version3\n", "Version 3\n", "VERSION 3\n",
			"version\t3\n", "version 3\r\n", "version 3\x00\n", "versions 3\n", "versio 3\n", "xversion 3\n", "version version 3\n", "version 03\n", "version 00\n", "version +3\n", "version -3\n", "version 3.\n",
			"version 0x3\n", "version x\n", "version \u0663\n", "version 0\n", "version -1\n", "version 1073741825\n", "version 2147483647\n", "version 2147483648\n", "version 4294967299\n",
			"version 18446744073709551619\n", "version " + strings.Repeat("9", 400) + "\n", "version 3 length 3\n", "version 3version 3\n", "length 3\n", "version: 3\n", "version=3\n",
		},
		{
			"\n", "length\n", "length \n", "3\n", "length 3 4\n", "length 3 \n", "length  3\n", " length 3\n", "length3\n", "Length 3\n", "length\t3\n", "length 3\r\n", "length 3\x00\n", "lengths 3\n", "xlength 3\n",
			"length length 3\n", "length 03\n", "length 00\n", "length +3\n", "length -0\n", "length -3\n", "length -1\n", "length 0x3\n", "length x\n", "length \u0663\n", "length 1048577\n", "length 1073741824\n",
			"length 2147483647\n", "length 2147483648\n", "length 4294967299\n", "length 18446744073709551619\n", "length " + strings.Repeat("1", 400) + "\n", "length 3 digest\n", "version 3\n",
		},
		{
			"\n", "digest\n", "digest \n", digestABC + "\n", "digest" + digestABC + "\n", "digest  " + digestABC + "\n", " digest " + digestABC + "\n", "digest " + digestABC + " \n",
			"digest " + digestABC + " x\n", "digest " + digestABC + " " + digestABC + "\n", "digest\t" + digestABC + "\n", "digest " + digestABC + "\r\n", "digest " + digestABC + "\x00\n",
			"Digest " + digestABC + "\n", "digests " + digestABC + "\n", "xdigest " + digestABC + "\n", "digest digest " + digestABC + "\n", "digest " + digestABC[1:] + "\n", "digest " + digestABC[2:] + "\n",
			"digest 0" + digestABC + "\n", "digest 00" + digestABC + "\n", "digest " + digestABC + digestABC + "\n", "digest " + strings.ToUpper(digestABC) + "\n", "digest B" + digestABC[1:] + "\n",
			"digest g" + digestABC[1:] + "\n", "digest " + digestABC[:63] + "g\n", "digest " + digestABC[:32] + " " + digestABC[33:] + "\n", "digest " + strings.Repeat("\u0661", 32) + "\n",
			"digest 0x" + digestABC[2:] + "\n", "digest -" + digestABC[1:] + "\n", "digest " + digestABC[:62] + "\n", "length 3\n",
		},
	}
}

func TestParseOfEachLineWrong(t *testing.T) {
	good := goodLines()
	m, at, e := Parse(strings.Join(good, ""))
	if m != Of(3, "abc") || at != 0 || e != api.OK {
		t.Fatalf("%#v, %d, %d", m, at, e)
	}
	all := wrongLines()
	for i := range good {
		ahead, behind := strings.Join(good[:i], ""), strings.Join(good[i+1:], "")
		for _, line := range all[i] {
			refused(t, ahead+line+behind, i+1)
			refused(t, ahead+line+behind+"x", i+1)
			refused(t, ahead+line, i+1)
			refused(t, ahead+line[:len(line)-1], i+1)
			for later := i + 1; later < len(good); later++ {
				l := slices.Clone(good)
				l[i], l[later] = line, all[later][0]
				refused(t, strings.Join(l, ""), i+1)
			}
		}
	}
}

// A line that is left out, stands twice, in the place of another one, or without its end.
func TestParseOfLinesMoved(t *testing.T) {
	good := goodLines()
	for i := range good {
		ahead, behind := strings.Join(good[:i], ""), strings.Join(good[i+1:], "")
		refused(t, ahead, i+1)
		refused(t, ahead+behind, i+1)
		refused(t, ahead+good[i]+good[i]+behind, i+2)
		refused(t, ahead+"\n"+good[i]+behind, i+1)
		refused(t, ahead+strings.TrimSuffix(good[i], "\n"), i+1)
		refused(t, ahead+strings.TrimSuffix(good[i], "\n")+behind, i+1)
		refused(t, ahead+strings.Replace(good[i], "\n", "\r", 1)+behind, i+1)
		refused(t, ahead+strings.Replace(good[i], " ", "\n", 1)+behind, i+1)
		for j := i + 1; j < len(good); j++ {
			l := slices.Clone(good)
			l[i], l[j] = l[j], l[i]
			refused(t, strings.Join(l, ""), i+1)
		}
	}
}

func TestParseOfWhatStandsBehind(t *testing.T) {
	s := strings.Join(goodLines(), "")
	for _, behind := range []string{"x", "\n", " ", "\x00", "\r\n", "\n\n", "tinderbox image\n", "key a\n", "digest " + digestABC + "\n", "\xff", s} {
		refused(t, s+behind, 5)
	}
}

// At each limit and one beyond it.
func TestParseAtLimits(t *testing.T) {
	d := bytesOf(t, digestABC)
	text := func(version, length string) string {
		return "tinderbox image\nversion " + version + "\nlength " + length + "\ndigest " + digestABC + "\n"
	}
	for _, c := range []struct {
		version, length string
		want            api.Manifest
		at              int
	}{
		{"1", "0", api.Manifest{Version: 1, Digest: d}, 0},
		{"1073741824", "1048576", api.Manifest{Version: 1073741824, Length: 1048576, Digest: d}, 0},
		{"1073741823", "1048575", api.Manifest{Version: 1073741823, Length: 1048575, Digest: d}, 0},
		{"0", "0", api.Manifest{}, 2},
		{"0", "1048577", api.Manifest{}, 2},
		{"1073741825", "0", api.Manifest{}, 2},
		{"1073741825", "1048577", api.Manifest{}, 2},
		{"1", "1048577", api.Manifest{}, 3},
		{"1073741824", "1048577", api.Manifest{}, 3},
		{"1", "-1", api.Manifest{}, 3},
	} {
		s := text(c.version, c.length)
		if c.at != 0 {
			refused(t, s, c.at)
		} else if m, at, e := Parse(s); m != c.want || at != 0 || e != api.OK {
			t.Errorf("Parse(%q) = %#v, %d, %d, want %#v", s, m, at, e, c.want)
		}
	}
}

// besidePlain asks Parse and the plain reading for the same.
func besidePlain(t *testing.T, s string) {
	t.Helper()
	want, line := plainParse(s)
	e := api.OK
	if line != 0 {
		e = api.ErrLine
	}
	if m, at, err := Parse(s); m != want || at != line || err != e {
		t.Errorf("Parse(%q) = %#v, %d, %d, want %#v, %d", s, m, at, err, want, line)
	}
}

// Cut at each byte; with each byte left out, or another one in its place or put in ahead of it.
func TestParseOfEachByte(t *testing.T) {
	s := Text(api.Manifest{Version: 1073741819, Length: 1048570, Digest: counting(32, 0x0a)})
	for i := range len(s) + 1 {
		if i < len(s) {
			refused(t, s[:i], strings.Count(s[:i], "\n")+1)
			besidePlain(t, s[:i]+s[i+1:])
			besidePlain(t, s[i:])
		}
		for b := range 256 {
			sign := string([]byte{byte(b)})
			besidePlain(t, s[:i]+sign+s[i:])
			if i < len(s) {
				besidePlain(t, s[:i]+sign+s[i+1:])
			}
		}
	}
}

// Lines that were drawn, of good and wrong ones, some of them changed.
func TestParseBesidePlain(t *testing.T) {
	random := rand.New(rand.NewSource(20))
	lines := append(wrongLines(), goodLines(), []string{
		"version 1\n", "version 1073741824\n", "length 0\n", "length 1048576\n", "digest " + strings.Repeat("0", 64) + "\n", "tinderbox image", "", "x",
	})
	for range 30000 {
		var s string
		for _, line := range goodLines() {
			if random.Intn(6) == 0 {
				from := lines[random.Intn(len(lines))]
				line = from[random.Intn(len(from))]
			}
			s += line
		}
		for random.Intn(4) == 0 && s != "" {
			i := random.Intn(len(s))
			s = s[:i] + string([]byte{"\n 0123456789abcdefgiotvx"[random.Intn(24)]}) + s[i+random.Intn(2):]
		}
		besidePlain(t, s)
	}
	for _, s := range []string{"", "\n", "\n\n\n\n", "\n\n\n\n\n", "x", strings.Repeat("x", 100000), strings.Repeat("\n", 100000)} {
		besidePlain(t, s)
	}
}

func TestParseOfNothing(t *testing.T) {
	refused(t, "", 1)
}

func TestPut(t *testing.T) {
	d := counting(32, 1)
	for _, c := range []struct {
		m    api.Manifest
		want string
	}{
		{api.Manifest{Version: 1, Length: 0, Digest: d}, "\x01\x01\x00" + d},
		{api.Manifest{Version: 300, Length: 3, Digest: d}, "\x02\x2c\x01\x01\x03" + d},
		{api.Manifest{Version: 3, Length: 300, Digest: d}, "\x01\x03\x02\x2c\x01" + d},
		{api.Manifest{Version: 1073741824, Length: 1048576, Digest: d}, "\x04\x00\x00\x00\x40\x03\x00\x00\x10" + d},
	} {
		if got := Put(c.m); got != c.want {
			t.Errorf("Put(%#v) = %q, want %q", c.m, got, c.want)
		}
	}
}

func TestTakeTakesPutBack(t *testing.T) {
	var all strings.Builder
	for _, m := range edges() {
		all.WriteString(Put(m))
		r := code.New(Put(m))
		if got := Take(r); got != m || r.End() != api.OK {
			t.Errorf("Take(Put(%#v)) = %#v, %d", m, got, r.End())
		}
	}
	r := code.New(all.String())
	for _, m := range edges() {
		if got := Take(r); got != m || r.Err() != api.OK {
			t.Fatalf("Take of %#v, behind others: %#v, %d", m, got, r.Err())
		}
	}
	if r.End() != api.OK {
		t.Error(r.End())
	}
}

// Just a manifest is taken: what stands behind it is left, whatever it is.
func TestTakeLeavesTheRest(t *testing.T) {
	m := Of(300, "abc")
	for _, rest := range []string{"x", "\x00", "\xff", "rest of it", Put(m), strings.Repeat("z", 1000)} {
		r := code.New(Put(m) + rest)
		if got := Take(r); got != m || r.Err() != api.OK || r.Left() != len(rest) || r.End() != api.ErrExtra {
			t.Errorf("Take ahead of %.10q: %#v, %d, %d left", rest, got, r.Err(), r.Left())
		}
		if got := r.Bytes(len(rest)); got != rest || r.End() != api.OK {
			t.Errorf("behind Take %.10q is left, want %.10q", got, rest)
		}
	}
}

// lost asks Take of bytes that can't be read: no manifest, the error stays, and nothing is left.
func lost(t *testing.T, s string, want api.Errno) {
	t.Helper()
	r := code.New(s)
	if m := Take(r); m != (api.Manifest{}) || r.Err() != want || r.Left() != 0 || r.End() != want {
		t.Errorf("Take of %q: %#v, error %d, %d left, want error %d", s, m, r.Err(), r.Left(), want)
	}
	if m := Take(r); m != (api.Manifest{}) || r.Err() != want {
		t.Errorf("Take of %q once more: %#v, error %d, want error %d", s, m, r.Err(), want)
	}
}

func TestTakeOfWhatIsCut(t *testing.T) {
	for _, m := range []api.Manifest{Of(1, ""), Of(300, "abc"), {Version: 1073741824, Length: 1048576, Digest: strings.Repeat("\x00", 32)}} {
		s := Put(m)
		for i := range len(s) {
			lost(t, s[:i], api.ErrShort)
		}
	}
}

func TestTakeOfWrongNumbers(t *testing.T) {
	d := counting(32, 1)
	most := "\x08\xff\xff\xff\xff\xff\xff\xff\xff"
	version, length := "\x04\x00\x00\x00\x40", "\x03\x00\x00\x10"
	for _, c := range []struct {
		name, s string
		want    api.Errno
	}{
		{"a version one above its limit", "\x04\x01\x00\x00\x40" + length + d, 5},
		{"a version above its limit, and nothing behind it", "\x04\x01\x00\x00\x40", 5},
		{"a version of 2^31", "\x04\x00\x00\x00\x80" + length + d, 5},
		{"a version of 2^32 and one", "\x05\x01\x00\x00\x00\x01" + length + d, 5},
		{"the greatest version", most + length + d, 5},
		{"a length one above its limit", version + "\x03\x01\x00\x10" + d, 5},
		{"a length above its limit, and nothing behind it", version + "\x03\x01\x00\x10", 5},
		{"a length at the version's limit", version + version + d, 5},
		{"a length of 2^32 and one", version + "\x05\x01\x00\x00\x00\x01" + d, 5},
		{"the greatest length", version + most + d, 5},
		{"both above their limits", most + most + d, 5},
		{"a version above its limit, and a length in another form", most + "\x01\x00" + d, 5},
		{"a version in another form, and a length above its limit", "\x01\x00" + most + d, 3},
		{"a version in another form", "\x02\x01\x00" + length + d, 3},
		{"a version that says nine bytes", "\x09" + length + d, 3},
		{"a length in another form", version + "\x02\x01\x00" + d, 3},
		{"a length that says nine bytes", version + "\x09" + d, 3},
		{"a digest of 31 bytes", version + length + d[:31], 2},
		{"no digest", version + length, 2},
		{"nothing", "", 2},
	} {
		t.Run(c.name, func(t *testing.T) { lost(t, c.s, c.want) })
	}
}

// Nothing is told of numbers below a limit: what may not be is taken as it stands.
func TestTakeOfVersionNought(t *testing.T) {
	want := api.Manifest{Length: 5, Digest: counting(32, 1)}
	for _, s := range []string{"\x00\x01\x05" + want.Digest, Put(want)} {
		r := code.New(s)
		if m := Take(r); m != want || r.End() != api.OK || Check(m) {
			t.Errorf("Take of %q: %#v, %d", s, m, r.End())
		}
	}
}

// A manifest whose numbers are beyond their limits is not taken back.
func TestTakeOfOddOnes(t *testing.T) {
	for _, m := range odd() {
		if m.Version >= 0 && m.Version <= 1073741824 && m.Length >= 0 && m.Length <= 1048576 {
			continue
		}
		lost(t, Put(m), api.ErrOver)
	}
}

// The digest's bytes stand behind the numbers as they are, however many they are.
func TestPutOfOddDigests(t *testing.T) {
	for _, d := range []string{"", "x", counting(31, 1), counting(33, 1)} {
		m := api.Manifest{Version: 1, Length: 2, Digest: d}
		if got := Put(m); got != "\x01\x01\x01\x02"+d {
			t.Errorf("Put(%#v) = %q", m, got)
		}
	}
}

// Behind an error that came earlier nothing is taken, and that error stays.
func TestTakeBehindAnError(t *testing.T) {
	for _, c := range []struct {
		name string
		fail func(r *code.Reader)
		want api.Errno
	}{
		{"short", func(r *code.Reader) { r.Bytes(-1) }, api.ErrShort},
		{"over", func(r *code.Reader) { r.Num(0) }, api.ErrOver},
		{"form", func(r *code.Reader) { r.Fixed(1); r.Num(0) }, api.ErrForm},
	} {
		r := code.New("\x01\x09" + Put(Of(3, "abc")))
		c.fail(r)
		if m := Take(r); m != (api.Manifest{}) || r.Err() != c.want {
			t.Errorf("%s: %#v, %d, want error %d", c.name, m, r.Err(), c.want)
		}
	}
}

func TestTakeOfNoReader(t *testing.T) {
	if m := Take(nil); m != (api.Manifest{}) {
		t.Errorf("%#v", m)
	}
	var r code.Reader
	if m := Take(&r); m != (api.Manifest{}) || r.Err() != api.ErrShort {
		t.Errorf("%#v, %d", m, r.Err())
	}
}

// Each call answers the same again, whatever was asked in between.
func TestTheSameAgain(t *testing.T) {
	for _, m := range edges()[:20] {
		first := Text(m) + Put(m)
		Parse("something else")
		Count("99999999999")
		Take(code.New("\xff"))
		if again := Text(m) + Put(m); again != first {
			t.Errorf("%#v: %q, then %q", m, first, again)
		}
	}
}
