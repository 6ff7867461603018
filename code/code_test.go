package code_test

import (
	"strings"
	"testing"

	"burgage/api"
	"burgage/code"
)

var keys = []string{"", "\x00", "\x00\x00", "\x00\x01", "\x01", "\x01\x00", "a", "a\x00", "a\x00b", "a\x01", "ab", "b", "\xff", "\xff\xff", strings.Repeat("\x00", 16), strings.Repeat("\xff", 16)}

func TestEncode(t *testing.T) {
	for key, want := range map[string]string{
		"":                             "\x00\x00",
		"a":                            "a\x00\x00",
		"a\x00b":                       "a\x00\x01b\x00\x00",
		"\x00":                         "\x00\x01\x00\x00",
		"\x01\x00":                     "\x01\x00\x01\x00\x00",
		strings.Repeat("\x00", 16):     strings.Repeat("\x00\x01", 16) + "\x00\x00",
		"0123456789abcdef":             "0123456789abcdef\x00\x00",
		"\xff\xfe\x00\xff\x01\x00\x01": "\xff\xfe\x00\x01\xff\x01\x00\x01\x01\x00\x00",
	} {
		if c, e := code.Encode(key); c != want || e != api.OK {
			t.Errorf("Encode(%q) = %q, %d", key, c, e)
		}
		if k, e := code.Decode(want); k != key || e != api.OK {
			t.Errorf("Decode(%q) = %q, %d", want, k, e)
		}
		if !code.Is(want) {
			t.Errorf("Is(%q)", want)
		}
	}
	for _, key := range []string{"0123456789abcdefg", strings.Repeat("\x00", 17), strings.Repeat("x", 1000)} {
		if c, e := code.Encode(key); c != "" || e != api.ErrLong {
			t.Errorf("Encode(%q) = %q, %d", key, c, e)
		}
	}
}

func TestNoCodes(t *testing.T) {
	for _, s := range []string{"", "a", "a\x00", "a\x00\x02", "a\x00\x02\x00\x00", "\x00", "\x00\x00\x00", "\x00\x01", "\x00\x01\x00", "a\x00\x00b", "a\x00\x00\x00\x00", "\x00\xff\x00\x00", "0123456789abcdefg\x00\x00", strings.Repeat("\x00\x01", 17) + "\x00\x00"} {
		if k, e := code.Decode(s); k != "" || e != api.ErrShape {
			t.Errorf("Decode(%q) = %q, %d", s, k, e)
		}
		if code.Is(s) {
			t.Errorf("Is(%q)", s)
		}
	}
}

func TestOrderAndPrefixes(t *testing.T) {
	for _, a := range keys {
		for _, b := range keys {
			x, _ := code.Encode(a)
			y, _ := code.Encode(b)
			if code.Less(a, b) != (a < b) || code.Less(x, y) != (a < b) {
				t.Errorf("%q %q", a, b)
			}
			if a != b && strings.HasPrefix(y, x) {
				t.Errorf("the code of %q begins that of %q", a, b)
			}
		}
	}
	for _, c := range []struct {
		a, b string
		less bool
	}{{"", "", false}, {"", "a", true}, {"a", "ab", true}, {"ab", "a", false}, {"\x7f", "\x80", true}, {"\xff", "a", false}} {
		if code.Less(c.a, c.b) != c.less {
			t.Errorf("Less(%q, %q)", c.a, c.b)
		}
	}
}
