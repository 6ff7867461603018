package path_test

import (
	"math"
	"strings"
	"testing"

	"burgage/path"
)

func TestCommon(t *testing.T) {
	for _, c := range []struct {
		a, b string
		want int
	}{{"abcd", "abxd", 2}, {"", "", 0}, {"", "a", 0}, {"a", "", 0}, {"ab", "abc", 2}, {"abc", "ab", 2}, {"abc", "abc", 3}, {"xa", "ya", 0}, {"\x00\xff", "\x00\xfe", 1}, {"ä", "å", 1}} {
		if got := path.Common(c.a, c.b); got != c.want {
			t.Errorf("Common(%q, %q) = %d", c.a, c.b, got)
		}
	}
}

func TestAll(t *testing.T) {
	for want, l := range map[int][]string{2: {"abcd", "abx", "ab"}, 3: {"abc"}, 1: {"ab", "ac", "abc", "a"}} {
		if got := path.All(l...); got != want {
			t.Errorf("All(%q) = %d", l, got)
		}
	}
	if path.All() != 0 || path.All("") != 0 || path.All("a", "", "a") != 0 || path.All("a", "b") != 0 {
		t.Error("All of what has nothing in common")
	}
}

func TestBegins(t *testing.T) {
	for _, s := range []string{"", "a", "ab", "abc", "b", "ba"} {
		for _, p := range []string{"", "a", "ab", "abc", "abcd", "b"} {
			if path.Begins(s, p) != strings.HasPrefix(s, p) {
				t.Errorf("Begins(%q, %q)", s, p)
			}
		}
	}
}

func TestCutAndJoin(t *testing.T) {
	p := "ab\x00d"
	for m := range len(p) {
		head, b, tail, is := path.Cut(p, m)
		if head != p[:m] || b != p[m] || tail != p[m+1:] || !is {
			t.Errorf("Cut at %d: %q %q %q %t", m, head, b, tail, is)
		}
		if s := path.Join(head, b, tail); s != p {
			t.Errorf("Join at %d: %q", m, s)
		}
	}
	for _, m := range []int{-1, 4, 5, math.MinInt, math.MaxInt} {
		if head, b, tail, is := path.Cut(p, m); head != "" || b != 0 || tail != "" || is {
			t.Errorf("Cut at %d: %q %q %q %t", m, head, b, tail, is)
		}
	}
	if _, _, _, is := path.Cut("", 0); is {
		t.Error("Cut of nothing")
	}
	if path.Join("", 0, "") != "\x00" || path.Join("a", 200, "b") != "a\xc8b" {
		t.Error("Join")
	}
}

func TestRest(t *testing.T) {
	for _, c := range []struct {
		n    int
		want string
	}{{0, "abc"}, {1, "bc"}, {3, ""}, {4, ""}, {-1, "abc"}, {math.MaxInt, ""}, {math.MinInt, "abc"}} {
		if got := path.Rest("abc", c.n); got != c.want {
			t.Errorf("Rest %d: %q", c.n, got)
		}
	}
}
