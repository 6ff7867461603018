// Package number reads decimal numbers that have just one text each.
package number

import "strconv"

// Natural returns the number of a text without leading zeros, if it is at most a greatest one.
func Natural(s string, most uint64) (uint64, bool) {
	n, err := strconv.ParseUint(s, 10, 64)
	if err != nil || n > most || strconv.FormatUint(n, 10) != s {
		return 0, false
	}
	return n, true
}

// Signed returns the number of a text without leading zeros that may be less than 0.
func Signed(s string) (int, bool) {
	n, err := strconv.Atoi(s)
	if err != nil || strconv.Itoa(n) != s {
		return 0, false
	}
	return n, true
}
