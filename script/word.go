package script

import (
	"strconv"
	"strings"

	"burgage/api"
	"burgage/handle"
	"burgage/number"
)

const (
	emptyWord = "-"
	escape    = '%'
	hexDigits = "0123456789abcdef"
	maxSmall  = 999999999
	maxLarge  = 1<<64 - 1
	anyHandle = "1.1." // what stands before the letters of the rights in the text of a handle
)

// isPlain reports whether a byte stands for itself.
func isPlain(b byte) bool {
	return b >= 'a' && b <= 'z' || b >= 'A' && b <= 'Z' || b >= '0' && b <= '9' || b == '.' || b == '_'
}

// Word returns the word of a byte string.
func Word(s string) string {
	if s == "" {
		return emptyWord
	}
	var w strings.Builder
	for i := range len(s) {
		if isPlain(s[i]) {
			w.WriteByte(s[i])
			continue
		}
		w.WriteByte(escape)
		w.WriteByte(hexDigits[s[i]>>4])
		w.WriteByte(hexDigits[s[i]&15])
	}
	return w.String()
}

// Unword returns the byte string of a word.
func Unword(w string) (string, api.Errno) {
	if w == emptyWord {
		return "", api.OK
	}
	var s []byte
	for i := 0; i < len(w); i++ {
		b := w[i]
		if b == escape && i+2 < len(w) {
			// A digit that is none gives -1, and a byte that would not be written like this.
			b = byte(strings.IndexByte(hexDigits, w[i+1])<<4 | strings.IndexByte(hexDigits, w[i+2]))
			i += 2
		}
		s = append(s, b)
	}
	if len(s) == 0 || Word(string(s)) != w {
		return "", api.ErrSyntax
	}
	return string(s), api.OK
}

func showText(s string) (string, api.Errno) { return Word(s), api.OK }

func showSmall(n int) (string, api.Errno) {
	if n < 0 || n > maxSmall {
		return "", api.ErrShape
	}
	return strconv.Itoa(n), api.OK
}

func readSmall(w string) (int, api.Errno) {
	n, is := number.Natural(w, maxSmall)
	return int(n), known(is)
}

func showLarge(n uint64) (string, api.Errno) { return strconv.FormatUint(n, 10), api.OK }

func readLarge(w string) (uint64, api.Errno) {
	n, is := number.Natural(w, maxLarge)
	return n, known(is)
}

func showRights(r api.Rights) (string, api.Errno) {
	w, e := handle.Show(api.Handle{Tenant: 1, Gen: 1, Rights: r})
	return strings.TrimPrefix(w, anyHandle), e
}

func readRights(w string) (api.Rights, api.Errno) {
	h, e := handle.Read(anyHandle + w)
	return h.Rights, e
}

// known is no error if something is a word.
func known(is bool) api.Errno {
	if is {
		return api.OK
	}
	return api.ErrSyntax
}
