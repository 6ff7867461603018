package walk_test

import (
	"math"
	"slices"
	"testing"

	"burgage/api"
	"burgage/art"
	"burgage/code"
	"burgage/walk"
)

func coded(key string) string {
	c, _ := code.Encode(key)
	return c
}

func made(keys ...string) *art.Art {
	a := art.New()
	for _, k := range keys {
		a.Put(coded(k), "v"+k)
	}
	return a
}

// same checks that pairs are those of some keys.
func same(t *testing.T, got []api.Pair, keys ...string) {
	t.Helper()
	var want []api.Pair
	for _, k := range keys {
		want = append(want, api.Pair{Key: coded(k), Value: "v" + k})
	}
	if !slices.Equal(got, want) {
		t.Errorf("%q is not %q", got, want)
	}
}

func TestFrom(t *testing.T) {
	a := made("a", "ab", "b")
	same(t, walk.From(a, "", 2), "a", "ab")
	same(t, walk.From(a, "", 9), "a", "ab", "b")
	same(t, walk.From(a, "", math.MaxInt), "a", "ab", "b")
	same(t, walk.From(a, coded("ab"), 1), "ab")
	same(t, walk.From(a, coded("a")+"\x00", 9), "ab", "b")
	same(t, walk.From(a, "c", 9))
	for _, most := range []int{0, -1, math.MinInt} {
		same(t, walk.From(a, "", most))
	}
}

func TestBetweenAndCount(t *testing.T) {
	a := made("a", "ab", "b", "c")
	for _, c := range []struct {
		from, to string
		keys     []string
	}{
		{coded("ab"), coded("b"), []string{"ab"}},
		{"", "", []string{"a", "ab", "b", "c"}},
		{"b", "", []string{"b", "c"}},
		{"", coded("b"), []string{"a", "ab"}},
		{"b", "a", nil},
		{coded("b"), coded("b"), nil},
		{"d", "", nil},
	} {
		same(t, walk.Between(a, c.from, c.to), c.keys...)
		if n := walk.Count(a, c.from, c.to); n != len(c.keys) {
			t.Errorf("Count(%q, %q) = %d", c.from, c.to, n)
		}
	}
	same(t, slices.Concat(walk.Between(a, "", "ab"), walk.Between(a, "ab", "c"), walk.Between(a, "c", "")), "a", "ab", "b", "c")
}

func TestNth(t *testing.T) {
	a := made("b", "a")
	for n, k := range []string{"a", "b"} {
		if p, is := walk.Nth(a, n); p != (api.Pair{Key: coded(k), Value: "v" + k}) || !is {
			t.Error(n, p, is)
		}
	}
	for _, n := range []int{-1, 2, math.MaxInt, math.MinInt} {
		if p, is := walk.Nth(a, n); p != (api.Pair{}) || is {
			t.Error(n, p, is)
		}
	}
}

func TestBegin(t *testing.T) {
	a := made("a", "ab", "b", "\xff", "\xff\xff")
	same(t, walk.Begin(a, "a"), "a", "ab")
	same(t, walk.Begin(a, ""), "a", "ab", "b", "\xff", "\xff\xff")
	same(t, walk.Begin(a, "\xff"), "\xff", "\xff\xff")
	same(t, walk.Begin(a, coded("ab")), "ab")
	same(t, walk.Begin(a, "ac"))
}

func TestGoesSeesWhatChangesBeyond(t *testing.T) {
	a := made("a", "c", "e")
	var got []api.Pair
	for p := range walk.Goes(a, "") {
		got = append(got, p)
		if len(got) == 1 {
			a.Put(coded("b"), "vb")
			a.Put(coded(""), "v")
			a.Delete(coded("c"))
			a.Delete(coded("a"))
		}
	}
	same(t, got, "a", "b", "e")
	n := 0
	for range walk.Goes(a, "b") {
		n++
		break
	}
	if n != 1 {
		t.Error(n)
	}
}

func TestResultsAreNew(t *testing.T) {
	a := made("a", "b")
	walk.Between(a, "", "")[0] = api.Pair{}
	same(t, walk.From(a, "", 2), "a", "b")
}

func TestNil(t *testing.T) {
	for _, a := range []*art.Art{nil, {}} {
		if len(walk.From(a, "", 1)) != 0 || len(walk.Between(a, "", "")) != 0 || walk.Count(a, "", "") != 0 || len(walk.Begin(a, "")) != 0 {
			t.Error("not nothing")
		}
		if p, is := walk.Nth(a, 0); p != (api.Pair{}) || is {
			t.Error(p, is)
		}
		for range walk.Goes(a, "") {
			t.Error("something")
		}
	}
}
