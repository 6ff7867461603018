package stat

import (
	"math"
	"strconv"
	"strings"

	"burgage/api"
	"burgage/load"
	"burgage/number"
)

const (
	loadWord   = "load"
	partDigits = 16
)

// Format returns the text of a Stat.
func Format(s api.Stat) string {
	if !Is(s) {
		return ""
	}
	var words []string
	for _, f := range fields() {
		words = append(words, f.word, strconv.FormatUint(*f.of(&s), 10))
	}
	words = append(words, loadWord, formatPart(real(s.Load)), formatPart(imag(s.Load)))
	return strings.Join(words, " ")
}

func formatPart(x float64) string {
	if x == 0 {
		x = 0 // -0 is 0, too, but has other bits
	}
	digits := strconv.FormatUint(math.Float64bits(x), 16)
	return strings.Repeat("0", partDigits-len(digits)) + digits
}

// Parse returns the Stat that a text describes.
func Parse(text string) (api.Stat, api.Errno) {
	words := strings.Split(text, " ")
	l := fields()
	if len(words) != 2*len(l)+3 {
		return api.Stat{}, api.ErrSyntax
	}
	var s api.Stat
	for i, f := range l {
		n, is := number.Natural(words[2*i+1], math.MaxUint64)
		if words[2*i] != f.word || !is {
			return api.Stat{}, api.ErrSyntax
		}
		*f.of(&s) = n
	}
	rest := words[2*len(l):]
	reads, is := parsePart(rest[1])
	writes, also := parsePart(rest[2])
	if rest[0] != loadWord || !is || !also {
		return api.Stat{}, api.ErrSyntax
	}
	s.Load = complex(reads, writes)
	if !load.Is(s.Load) || math.Signbit(reads) || math.Signbit(writes) {
		return api.Stat{}, api.ErrShape
	}
	return s, api.OK
}

// parsePart returns the number of some digits, if there are as many as there must be.
func parsePart(digits string) (float64, bool) {
	if len(digits) != partDigits || strings.Trim(digits, "0123456789abcdef") != "" {
		return 0, false
	}
	n, err := strconv.ParseUint(digits, 16, 64)
	return math.Float64frombits(n), err == nil
}
