package art_test

import (
	"reflect"
	"slices"
	"strings"
	"testing"

	"burgage/api"
	"burgage/art"
	"burgage/code"
	"burgage/node"
)

func coded(key string) string {
	c, _ := code.Encode(key)
	return c
}

func made(t *testing.T, keys ...string) *art.Art {
	t.Helper()
	a := art.New()
	for _, k := range keys {
		if e := a.Put(coded(k), "v"+k); e != api.OK {
			t.Fatal(k, e)
		}
	}
	return a
}

func leaf(key string) api.Node {
	return api.Node{Kind: api.Leaf, Code: coded(key), Value: "v" + key}
}

func inner(path, bytes string) api.Node {
	k, _ := node.Of(len(bytes))
	return api.Node{Kind: k, Path: path, Bytes: []byte(bytes)}
}

func same(t *testing.T, got []api.Node, want ...api.Node) {
	t.Helper()
	if len(got) != len(want) || len(got) > 0 && !reflect.DeepEqual(got, want) {
		t.Errorf("%v\nis not %v", got, want)
	}
}

func TestMap(t *testing.T) {
	a := made(t, "b", "a", "ab")
	if a.Len() != 3 {
		t.Error(a.Len())
	}
	if e := a.Put(coded("a"), ""); e != api.OK || a.Len() != 3 {
		t.Error(e, a.Len())
	}
	if v, is := a.Get(coded("a")); v != "" || !is {
		t.Error(v, is)
	}
	if v, is := a.Get(coded("x")); v != "" || is {
		t.Error(v, is)
	}
	if e := a.Delete(coded("x")); e != api.ErrNone {
		t.Error(e)
	}
	if e := a.Delete(coded("a")); e != api.OK || a.Len() != 2 {
		t.Error(e, a.Len())
	}
	if _, is := a.Get(coded("a")); is {
		t.Error("still there")
	}
}

func TestErrors(t *testing.T) {
	a := made(t, "a")
	long := strings.Repeat("v", 33)
	for _, c := range []string{"", "a", "a\x00", "a\x00\x02", "a\x00\x00b", strings.Repeat("x", 17) + "\x00\x00"} {
		if e := a.Put(c, long); e != api.ErrArg {
			t.Errorf("%q %d", c, e)
		}
		if e := a.Delete(c); e != api.ErrNone {
			t.Errorf("%q %d", c, e)
		}
	}
	if e := a.Put(coded("b"), long); e != api.ErrLong || a.Len() != 1 {
		t.Error(e, a.Len())
	}
	if e := a.Put(coded("b"), long[:32]); e != api.OK {
		t.Error(e)
	}
}

func TestFrom(t *testing.T) {
	a := made(t, "b", "a", "ab")
	for _, c := range []struct{ bound, key string }{{"", "a"}, {coded("a"), "a"}, {coded("a") + "\x00", "ab"}, {"a", "a"}, {"ac", "b"}, {coded("b"), "b"}} {
		if got, v, is := a.From(c.bound); got != coded(c.key) || v != "v"+c.key || !is {
			t.Errorf("%q: %q %q %t", c.bound, got, v, is)
		}
	}
	if got, v, is := a.From("c"); got != "" || v != "" || is {
		t.Error(got, v, is)
	}
}

func TestBelow(t *testing.T) {
	same(t, art.New().Below())
	same(t, made(t, "ab", "a").Below(), inner("", "\x00b"), leaf("a"), leaf("ab"))
	same(t, made(t, "b", "ab", "a").Below(), inner("", "\x00b"), leaf("a"), leaf("ab"), leaf("b"))
	same(t, made(t, "xyz1", "xyz2", "xq").Below(), inner("", "qy"), leaf("xq"), inner("z", "12"), leaf("xyz1"), leaf("xyz2"))
	same(t, made(t, "").Below(), leaf(""))
	same(t, made(t, "", "\x00").Below(), inner("", "\x00\x01"), leaf(""), leaf("\x00"))
	same(t, made(t, "abcdef0", "abcdef1").Below(), inner("bcdef", "01"), leaf("abcdef0"), leaf("abcdef1"))
}

func TestKindsBelow(t *testing.T) {
	a := art.New()
	for i := range 256 {
		b := byte(i*57 + 1)
		a.Put(coded("k"+string([]byte{b})), "v")
		l := a.Below()
		if len(l) != i+1 && len(l) != i+2 {
			t.Fatal(i, len(l))
		}
		if i == 0 {
			continue
		}
		want, _ := node.Of(len(l[0].Bytes))
		if l[0].Kind != want || !slices.IsSorted(l[0].Bytes) || l[0].Path != "" {
			t.Error(i, l[0])
		}
	}
}

func TestShapeDoesNotDependOnTheOrder(t *testing.T) {
	keys := []string{"", "a", "ab", "abc", "abd", "b", "\x00", "\x00a", "ba", "bab", "bac"}
	want := made(t, keys...).Below()
	leaves := 0
	for _, n := range want {
		if n.Kind == api.Leaf {
			leaves++
		}
		if n.Kids != nil {
			t.Error("kids", n)
		}
	}
	if leaves != len(keys) || len(want)-leaves >= leaves {
		t.Error(leaves, len(want))
	}
	for i := range keys {
		other := slices.Concat(keys[i:], keys[:i])
		slices.Reverse(other)
		a := made(t, other...)
		a.Put(coded("bad"), "x")
		a.Delete(coded("bad"))
		same(t, a.Below(), want...)
	}
}

func TestBelowIsNew(t *testing.T) {
	a := made(t, "a", "ab")
	a.Below()[0].Bytes[0] = 99
	same(t, a.Below(), inner("", "\x00b"), leaf("a"), leaf("ab"))
}

func TestAllIsAsItWasAtTheBeginning(t *testing.T) {
	a := made(t, "b", "c")
	all := a.All()
	a.Put(coded("a"), "va")
	text := ""
	for c, v := range all {
		text += v
		if c != coded(v[1:]) {
			t.Error(c, v)
		}
		a.Delete(coded("c"))
		a.Put(coded("b"), "changed")
		a.Put(coded("d"), "vd")
	}
	if text != "vavbvc" {
		t.Error(text)
	}
	for range all {
		break
	}
}

func TestCopyIsIndependent(t *testing.T) {
	a := made(t, "a", "b")
	c := a.Copy()
	a.Put(coded("a"), "new")
	a.Delete(coded("b"))
	c.Put(coded("c"), "vc")
	if v, _ := c.Get(coded("a")); v != "va" || c.Len() != 3 || a.Len() != 1 {
		t.Error(v, c.Len(), a.Len())
	}
}

func TestNil(t *testing.T) {
	for _, a := range []*art.Art{nil, {}} {
		if a.Put("a\x00\x00", "") != api.ErrNil || a.Delete("a\x00\x00") != api.ErrNil || a.Below() != nil || a.Len() != 0 || a.Copy() != nil {
			t.Error("not nothing")
		}
		if v, is := a.Get(""); v != "" || is {
			t.Error(v, is)
		}
		if c, v, is := a.From(""); c != "" || v != "" || is {
			t.Error(c, v, is)
		}
		for range a.All() {
			t.Error("something")
		}
	}
}
