package book_test

import (
	"math"
	"slices"
	"strings"
	"testing"

	"burgage/api"
	"burgage/book"
)

var (
	longKey   = strings.Repeat("k", 17)
	longValue = strings.Repeat("v", 33)
	plenty    = api.Limits{Keys: math.MaxUint64, Bytes: math.MaxUint64}
)

func made(t *testing.T, l api.Limits, pairs ...api.Pair) *book.Book {
	t.Helper()
	b := book.New(l)
	for _, p := range pairs {
		if e := b.Put(p.Key, p.Value); e != api.OK {
			t.Fatal(p, e)
		}
	}
	return b
}

// has checks what is in a book.
func has(t *testing.T, b *book.Book, want ...api.Pair) {
	t.Helper()
	var l []api.Pair
	bytes := 0
	for k, v := range b.All() {
		l = append(l, api.Pair{Key: k, Value: v})
		bytes += len(k) + len(v)
	}
	if !slices.Equal(l, want) || b.Keys() != uint64(len(want)) || b.Bytes() != uint64(bytes) {
		t.Errorf("%q, %d keys, %d bytes; not %q", l, b.Keys(), b.Bytes(), want)
	}
}

func TestExample(t *testing.T) {
	b := made(t, api.Limits{Keys: 2, Bytes: 9}, api.Pair{Key: "a", Value: "1234"}, api.Pair{Key: "b", Value: "123"})
	for _, p := range []api.Pair{{Key: "b", Value: "1234"}, {Key: "c", Value: ""}} {
		if e := b.Put(p.Key, p.Value); e != api.ErrQuota {
			t.Error(p, e)
		}
	}
	if e := b.Swap("a", "12", ""); e != api.ErrDiffer {
		t.Error(e)
	}
	has(t, b, api.Pair{Key: "a", Value: "1234"}, api.Pair{Key: "b", Value: "123"})
	if e := b.Delete("a"); e != api.OK {
		t.Error(e)
	}
	if e := b.Put("c", "12"); e != api.OK {
		t.Error(e)
	}
	has(t, b, api.Pair{Key: "b", Value: "123"}, api.Pair{Key: "c", Value: "12"})
}

func TestGetPutDelete(t *testing.T) {
	b := made(t, plenty, api.Pair{Key: "b", Value: "1"}, api.Pair{Key: "", Value: ""}, api.Pair{Key: "\xff", Value: longValue[:32]})
	for key, want := range map[string]string{"b": "1", "": "", "\xff": longValue[:32]} {
		if v, e := b.Get(key); v != want || e != api.OK {
			t.Errorf("Get(%q) = %q, %d", key, v, e)
		}
	}
	b.Put("b", "other")
	has(t, b, api.Pair{}, api.Pair{Key: "b", Value: "other"}, api.Pair{Key: "\xff", Value: longValue[:32]})
	if v, e := b.Get("x"); v != "" || e != api.ErrNone {
		t.Error(v, e)
	}
	if e := b.Delete("x"); e != api.ErrNone {
		t.Error(e)
	}
	if e := b.Delete("b"); e != api.OK {
		t.Error(e)
	}
	has(t, b, api.Pair{}, api.Pair{Key: "\xff", Value: longValue[:32]})
}

func TestArguments(t *testing.T) {
	b := made(t, api.Limits{}, []api.Pair{}...)
	if v, e := b.Get(longKey); v != "" || e != api.ErrArg {
		t.Error(v, e)
	}
	for i, e := range []api.Errno{b.Put(longKey, ""), b.Put("a", longValue), b.Delete(longKey), b.Swap(longKey, "", ""), b.Swap("a", longValue, ""), b.Swap("a", "", longValue)} {
		if e != api.ErrArg {
			t.Error(i, e)
		}
	}
	if e := b.Put("", ""); e != api.ErrQuota {
		t.Error("no key allowed", e)
	}
	has(t, b)
}

func TestSwap(t *testing.T) {
	b := made(t, api.Limits{Keys: 1, Bytes: 4}, api.Pair{Key: "a", Value: "12"})
	for i, c := range []struct {
		key, old, value string
		want            api.Errno
	}{{"b", "", "", api.ErrNone}, {"a", "1", "2", api.ErrDiffer}, {"a", "1", "1234", api.ErrDiffer}, {"a", "12", "1234", api.ErrQuota}, {"a", "12", "123", api.OK}, {"a", "123", "", api.OK}, {"a", "", "xyz", api.OK}} {
		if e := b.Swap(c.key, c.old, c.value); e != c.want {
			t.Error(i, e)
		}
	}
	has(t, b, api.Pair{Key: "a", Value: "xyz"})
}

func TestQuota(t *testing.T) {
	b := made(t, api.Limits{Keys: 2, Bytes: 5}, api.Pair{Key: "ab", Value: "123"})
	for i, e := range []api.Errno{b.Put("c", ""), b.Put("ab", "1234")} {
		if e != api.ErrQuota {
			t.Error(i, e)
		}
	}
	if e := b.Put("", ""); e != api.OK {
		t.Error("an empty key has no bytes", e)
	}
	if e := b.Put("ab", "45"); e != api.OK || b.Bytes() != 4 {
		t.Error(e, b.Bytes())
	}
	if e := b.Put("c", ""); e != api.ErrQuota {
		t.Error("a third key", e)
	}
}

func TestScan(t *testing.T) {
	b := made(t, plenty, api.Pair{Key: "a", Value: "1"}, api.Pair{Key: "ab", Value: "2"}, api.Pair{Key: "b", Value: "3"})
	for _, c := range []struct {
		from  string
		limit int
		want  string
	}{{"", 4096, "123"}, {"", 2, "12"}, {"", 0, ""}, {"a\x00", 9, "23"}, {"ab", 1, "2"}, {"b", 1, "3"}, {"c", 1, ""}} {
		l, e := b.Scan(c.from, c.limit)
		got := ""
		for _, p := range l {
			got += p.Value
		}
		if got != c.want || e != api.OK {
			t.Errorf("Scan(%q, %d) = %q, %d", c.from, c.limit, l, e)
		}
	}
	for _, c := range []struct {
		from  string
		limit int
	}{{longKey, 1}, {"", -1}, {"", 4097}, {"", math.MinInt}, {"", math.MaxInt}} {
		if l, e := b.Scan(c.from, c.limit); l != nil || e != api.ErrArg {
			t.Errorf("Scan(%q, %d) = %q, %d", c.from, c.limit, l, e)
		}
	}
}

func TestAllIsAsItWasAtTheBeginning(t *testing.T) {
	b := made(t, plenty, api.Pair{Key: "b", Value: "1"})
	all := b.All()
	b.Put("c", "2")
	text := ""
	for k, v := range all {
		text += k + v
		b.Delete("c")
		b.Put("d", "3")
	}
	if text != "b1c2" {
		t.Error(text)
	}
	for range all {
		break
	}
}

func TestCopyIsIndependent(t *testing.T) {
	b := made(t, api.Limits{Keys: 2, Bytes: 9}, api.Pair{Key: "a", Value: "1"})
	c := b.Copy()
	b.Delete("a")
	c.Put("b", "2")
	has(t, b)
	has(t, c, api.Pair{Key: "a", Value: "1"}, api.Pair{Key: "b", Value: "2"})
	if e := c.Put("c", ""); e != api.ErrQuota {
		t.Error("limits are not copied", e)
	}
}

func TestNil(t *testing.T) {
	for _, b := range []*book.Book{nil, {}} {
		if v, e := b.Get(longKey); v != "" || e != api.ErrNil {
			t.Error(v, e)
		}
		if l, e := b.Scan("", -1); l != nil || e != api.ErrNil {
			t.Error(l, e)
		}
		if b.Put("", longValue) != api.ErrNil || b.Delete("") != api.ErrNil || b.Swap("", "", "") != api.ErrNil || b.Copy() != nil {
			t.Error("not nothing")
		}
		has(t, b)
	}
}
