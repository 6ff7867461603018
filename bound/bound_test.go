package bound_test

import (
	"math"
	"strings"
	"testing"

	"burgage/bound"
)

// texts are all strings of at most three of some bytes: enough to try a promise out by brute force.
func texts() []string {
	l := []string{""}
	for from := 0; len(l[len(l)-1]) < 3; {
		to := len(l)
		for _, s := range l[from:to] {
			for _, b := range []string{"\x00", "\x01", "a", "\xfe", "\xff"} {
				l = append(l, s+b)
			}
		}
		from = to
	}
	return l
}

func TestAfter(t *testing.T) {
	for _, s := range texts() {
		if got := bound.After(s); got != s+"\x00" {
			t.Errorf("After(%q) = %q", s, got)
		}
	}
}

func TestBeyond(t *testing.T) {
	for p, want := range map[string]string{"ab": "ac", "a\xff": "b", "a\xff\xff": "b", "\x00": "\x01", "\xfe\xff": "\xff", "a\xffb\xff": "a\xffc"} {
		if got, is := bound.Beyond(p); got != want || !is {
			t.Errorf("Beyond(%q) = %q, %t", p, got, is)
		}
	}
	for _, p := range []string{"", "\xff", "\xff\xff\xff"} {
		if got, is := bound.Beyond(p); got != "" || is {
			t.Errorf("Beyond(%q) = %q, %t", p, got, is)
		}
	}
}

func TestBeyondEndsThePrefix(t *testing.T) {
	l := texts()
	for _, p := range l {
		end, is := bound.Beyond(p)
		for _, s := range l {
			inside := s >= p && (!is || s < end)
			if inside != strings.HasPrefix(s, p) {
				t.Errorf("%q and the prefix %q", s, p)
			}
		}
	}
}

func TestClip(t *testing.T) {
	for _, c := range []struct {
		s    string
		n    int
		want string
	}{{"abc", 2, "ab"}, {"abc", 3, "abc"}, {"abc", 4, "abc"}, {"abc", 0, ""}, {"abc", -1, ""}, {"", 1, ""}, {"abc", math.MaxInt, "abc"}, {"abc", math.MinInt, ""}} {
		if got := bound.Clip(c.s, c.n); got != c.want {
			t.Errorf("Clip(%q, %d) = %q", c.s, c.n, got)
		}
	}
}

func TestReachesAndLeast(t *testing.T) {
	for _, c := range []struct {
		p, bound string
		is       bool
		least    string
	}{{"ab", "aa9", true, "ab"}, {"ab", "abz", true, "abz"}, {"ab", "ac", false, ""}, {"ab", "ab", true, "ab"}, {"ab", "a", true, "ab"}, {"", "x", true, "x"}, {"", "", true, ""}, {"a", "", true, "a"}, {"\xff", "\xff\xff", true, "\xff\xff"}, {"\x00", "a", false, ""}} {
		if got := bound.Reaches(c.p, c.bound); got != c.is {
			t.Errorf("Reaches(%q, %q) = %t", c.p, c.bound, got)
		}
		if got := bound.Least(c.p, c.bound); got != c.least {
			t.Errorf("Least(%q, %q) = %q", c.p, c.bound, got)
		}
	}
	for _, p := range texts() {
		for _, b := range texts() {
			short := b
			if len(b) > len(p) {
				short = b[:len(p)]
			}
			if bound.Reaches(p, b) != (p >= short) {
				t.Errorf("Reaches(%q, %q)", p, b)
			}
			least := bound.Least(p, b)
			if bound.Reaches(p, b) && (!strings.HasPrefix(least, p) || least < b || least > p && least > b) {
				t.Errorf("Least(%q, %q) = %q", p, b, least)
			}
		}
	}
}

func TestMax(t *testing.T) {
	if bound.Max() != "" || bound.Max("") != "" || bound.Max("b") != "b" || bound.Max("a", "ab", "aa") != "ab" || bound.Max("\x80", "\x7f") != "\x80" {
		t.Error("Max")
	}
}
