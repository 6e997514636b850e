package manifest

import (
	"encoding/hex"
	"math/big"
	"regexp"
	"strings"

	"tinderbox/api"
)

// plainForm is the only form of a count.
var plainForm = regexp.MustCompile(`\A(0|[1-9][0-9]*)\z`)

// plainLines are the forms of the four lines, and of what each tells.
var plainLines = []*regexp.Regexp{
	regexp.MustCompile(`\A(tinderbox image)\n\z`),
	regexp.MustCompile(`\Aversion (0|[1-9][0-9]*)\n\z`),
	regexp.MustCompile(`\Alength (0|[1-9][0-9]*)\n\z`),
	regexp.MustCompile(`\Adigest ([0-9a-f]{64})\n\z`),
}

// plainCount is the count of a word, by numbers that have no end.
func plainCount(w string) (int, bool) {
	if !plainForm.MatchString(w) {
		return 0, false
	}
	n, ok := new(big.Int).SetString(w, 10)
	if !ok || n.Cmp(big.NewInt(2147483647)) > 0 {
		return 0, false
	}
	return int(n.Int64()), true
}

// plainParse lays all lines out first, and then asks them one by one: the manifest, or the number of the first line that is wrong.
func plainParse(s string) (api.Manifest, int) {
	lines := strings.SplitAfter(s, "\n")
	if lines[len(lines)-1] == "" {
		lines = lines[:len(lines)-1]
	}
	var m api.Manifest
	for i, form := range plainLines {
		if i >= len(lines) {
			return api.Manifest{}, i + 1
		}
		said := form.FindStringSubmatch(lines[i])
		if said == nil {
			return api.Manifest{}, i + 1
		}
		n, counts := plainCount(said[1])
		switch {
		case i == 1 && (!counts || n < 1 || n > 1073741824), i == 2 && (!counts || n > 1048576):
			return api.Manifest{}, i + 1
		case i == 1:
			m.Version = n
		case i == 2:
			m.Length = n
		case i == 3:
			digest, err := hex.DecodeString(said[1])
			if err != nil {
				return api.Manifest{}, i + 1
			}
			m.Digest = string(digest)
		}
	}
	if len(lines) > 4 {
		return api.Manifest{}, 5
	}
	return m, 0
}
