package tree_test

import (
	"math"
	"math/rand"
	"reflect"
	"slices"
	"strings"
	"testing"

	"burgage/api"
	"burgage/art"
	"burgage/code"
	"burgage/node"
	"burgage/tree"
)

func coded(key string) string {
	c, _ := code.Encode(key)
	return c
}

func made(t *testing.T, slots int) (*tree.Tree, api.Ref) {
	t.Helper()
	x, e := tree.New(slots)
	if x == nil || e != api.OK {
		t.Fatal(slots, e)
	}
	a, e := x.Plant()
	if e != api.OK {
		t.Fatal(e)
	}
	return x, a
}

// kill locks and kills nodes that died.
func kill(t *testing.T, x *tree.Tree, dead []api.Ref) {
	t.Helper()
	for _, r := range dead {
		w, _ := x.Begin(r)
		if !x.Lock(r, w) || x.Kill(r) != api.OK {
			t.Fatal("it does not die", r)
		}
	}
}

func put(t *testing.T, x *tree.Tree, anchor api.Ref, keys ...string) {
	t.Helper()
	for _, k := range keys {
		dead, e := x.Put(anchor, coded(k), "v"+k)
		if e != api.OK {
			t.Fatal(k, e)
		}
		kill(t, x, dead)
	}
}

// below returns the nodes below an anchor, as the model lists them.
func below(t *testing.T, x *tree.Tree, r api.Ref) []api.Node {
	t.Helper()
	var l []api.Node
	n, is := x.Node(r)
	if !is {
		t.Fatal("a kid does not live", r)
	}
	for _, kid := range n.Kids {
		k, _ := x.Node(kid)
		if !node.Right(k) {
			t.Error("a wrong node", k)
		}
		k.Kids = nil
		l = append(l, k)
		l = append(l, below(t, x, kid)...)
	}
	return l
}

// like checks that the tree below an anchor is that of the model, and that no place is lost.
func like(t *testing.T, x *tree.Tree, anchor api.Ref, a *art.Art, room int) {
	t.Helper()
	got, want := below(t, x, anchor), a.Below()
	if len(got) != len(want) || len(got) > 0 && !reflect.DeepEqual(got, want) {
		t.Fatalf("%v\nis not %v", got, want)
	}
	if x.Room() != room-len(want) {
		t.Fatal("room", x.Room(), "not", room-len(want))
	}
	var codes []string
	for c, v := range x.All(anchor) {
		codes = append(codes, c)
		if w, is := a.Get(c); !is || v != w {
			t.Error(c, v, w)
		}
	}
	if len(codes) != a.Len() || !slices.IsSorted(codes) {
		t.Error(codes)
	}
}

func TestNewAndPlant(t *testing.T) {
	for _, slots := range []int{0, -1, api.MaxSlots + 1, math.MaxInt, math.MinInt} {
		if x, e := tree.New(slots); x != nil || e != api.ErrArg {
			t.Error(slots, x, e)
		}
	}
	x, a := made(t, 2)
	if n, is := x.Node(a); !node.Anchor(n) || len(n.Kids) != 0 || !is || x.Room() != 1 {
		t.Error(n, is, x.Room())
	}
	b, e := x.Plant()
	if b == a || e != api.OK {
		t.Error(b, e)
	}
	if r, e := x.Plant(); r != (api.Ref{}) || e != api.ErrFull {
		t.Error(r, e)
	}
}

func TestExample(t *testing.T) {
	x, a := made(t, 10)
	put(t, x, a, "a", "ab")
	s, e := x.Seek(a, coded("ab"))
	if e != api.OK || s.What != tree.Here || len(s.Way) != 3 || s.At != 0 || s.Depth != 2 {
		t.Fatal(s, e)
	}
	n, _ := x.Node(s.Way[1])
	if n.Kind != api.Node4 || n.Path != "" || string(n.Bytes) != "\x00b" {
		t.Error(n)
	}
	c, e := x.Plan(a, coded("ab"), false)
	want := tree.Change{Locks: s.Way, Dies: []api.Ref{s.Way[2], s.Way[1]}}
	if e != api.OK || !reflect.DeepEqual(c, want) {
		t.Error(c, e)
	}
	dead, e := x.Drop(a, coded("ab"))
	if e != api.OK || !slices.Equal(dead, want.Dies) {
		t.Error(dead, e)
	}
	if n, is := x.Node(s.Way[2]); !is || n.Value != "vab" {
		t.Error("a dead node lives on, as it was", n, is)
	}
	if n, is := x.Node(s.Way[1]); !is || string(n.Bytes) != "\x00b" {
		t.Error("a dead node lives on, as it was", n, is)
	}
	s, _ = x.Seek(a, coded("a"))
	if s.What != tree.Here || len(s.Way) != 2 || s.Depth != 1 {
		t.Error(s)
	}
}

func TestSpots(t *testing.T) {
	x, a := made(t, 40)
	put(t, x, a, "xyz1", "xyz2", "b")
	for _, c := range []struct {
		key       string
		what      tree.What
		way       int
		at, depth int
	}{
		{"a", tree.Bare, 1, 'a', 0},
		{"", tree.Bare, 1, 0, 0},
		{"b", tree.Here, 2, 0, 1},
		{"bc", tree.Other, 2, 0, 1},
		{"xyz3", tree.Bare, 2, '3', 1},
		{"xyz", tree.Bare, 2, 0, 1},
		{"xy", tree.Split, 2, 1, 1},
		{"xya1", tree.Split, 2, 1, 1},
		{"x", tree.Split, 2, 0, 1},
		{"xyz1", tree.Here, 3, 0, 4},
		{"xyz12", tree.Other, 3, 0, 4},
	} {
		s, e := x.Seek(a, coded(c.key))
		if e != api.OK || s.What != c.what || len(s.Way) != c.way || s.Way[0] != a || s.At != c.at || s.Depth != c.depth {
			t.Errorf("%q: %v, %d", c.key, s, e)
		}
	}
	put(t, x, a, "longer1")
	if s, _ := x.Seek(a, coded("longer2")); s.What != tree.Other || s.At != 5 || s.Depth != 1 {
		t.Error(s)
	}
}

func TestPlans(t *testing.T) {
	x, a := made(t, 40)
	put(t, x, a, "a1", "a2", "a3", "bb1", "bb2", "bbc1", "c")
	at := func(key string, up int) api.Ref {
		s, _ := x.Seek(a, coded(key))
		return s.Way[len(s.Way)-1-up]
	}
	plan := func(key string, put bool, locks, dies []api.Ref, room int) {
		t.Helper()
		c, e := x.Plan(a, coded(key), put)
		if e != api.OK || !slices.Equal(c.Locks, locks) || !slices.Equal(c.Dies, dies) || c.Room != room {
			t.Errorf("%q: %v, %d", key, c, e)
		}
	}
	l := func(r ...api.Ref) []api.Ref { return r }
	plan("a1", true, l(at("a1", 0)), nil, 0)
	plan("d", true, l(a), nil, 1)
	plan("a4", true, l(at("a1", 1)), nil, 1)
	plan("bx", true, l(a, at("bb1", 1)), nil, 2)
	plan("cc", true, l(a, at("c", 0)), nil, 2)
	plan("c", false, l(a, at("c", 0)), l(at("c", 0)), 0)
	plan("a1", false, l(at("a1", 1), at("a1", 0)), l(at("a1", 0)), 0)
	put(t, x, a, "a4")
	plan("a5", true, l(a, at("a1", 1)), l(at("a1", 1)), 2)
	put(t, x, a, "bbc2", "xy1", "xyz1", "xyz2")
	plan("xy1", false, l(a, at("xy1", 1), at("xy1", 0), at("xyz1", 1)), l(at("xy1", 0), at("xy1", 1)), 0)
	plan("xyz1", false, l(at("xy1", 1), at("xyz1", 1), at("xyz1", 0)), l(at("xyz1", 0), at("xyz1", 1)), 0)
	if c, e := x.Plan(a, coded("none"), false); !reflect.DeepEqual(c, tree.Change{}) || e != api.ErrNone {
		t.Error(c, e)
	}
}

func TestLikeTheModel(t *testing.T) {
	r := rand.New(rand.NewSource(1))
	for _, letters := range []string{"ab", "\x00\x01a", "abcdefghijklmnopqrstuvwxyz"} {
		x, a := made(t, 2000)
		other, _ := x.Plant()
		put(t, x, other, "a", "ab", "b")
		model, room := art.New(), x.Room()
		for range 1500 {
			var b strings.Builder
			for range r.Intn(5) {
				b.WriteByte(letters[r.Intn(len(letters))])
			}
			c, value := coded(b.String()), string(rune('0'+r.Intn(9)))
			if r.Intn(5) < 3 {
				changed(t, x, a, c, true, func() ([]api.Ref, api.Errno) { return x.Put(a, c, value) })
				model.Put(c, value)
			} else if model.Delete(c) == api.OK {
				changed(t, x, a, c, false, func() ([]api.Ref, api.Errno) { return x.Drop(a, c) })
			} else if dead, e := x.Drop(a, c); dead != nil || e != api.ErrNone {
				t.Fatal(dead, e)
			}
			if r.Intn(20) == 0 {
				like(t, x, a, model, room)
			}
		}
		like(t, x, a, model, room)
		if n, e := x.Fell(a); n != len(model.Below())+1 || e != api.OK || x.Room() != room+1 {
			t.Error(n, e, x.Room())
		}
		n := 0
		for range x.All(other) {
			n++
		}
		if n != 3 {
			t.Error("another anchor was touched", n)
		}
	}
}

func TestAllKinds(t *testing.T) {
	x, a := made(t, 600)
	model, room := art.New(), x.Room()
	for i := range 256 {
		c := coded("x" + string([]byte{byte(i * 77)}))
		changed(t, x, a, c, true, func() ([]api.Ref, api.Errno) { return x.Put(a, c, "v") })
		model.Put(c, "v")
		like(t, x, a, model, room)
	}
	for i := range 256 {
		c := coded("x" + string([]byte{byte(i * 33)}))
		changed(t, x, a, c, false, func() ([]api.Ref, api.Errno) { return x.Drop(a, c) })
		model.Delete(c)
		like(t, x, a, model, room)
	}
}

// changed does a change and checks that it did what its plan says, and changed no other node.
func changed(t *testing.T, x *tree.Tree, a api.Ref, c string, put bool, do func() ([]api.Ref, api.Errno)) {
	t.Helper()
	plan, e := x.Plan(a, c, put)
	if e != api.OK {
		t.Fatal(e)
	}
	s, _ := x.Seek(a, c)
	before, room := x.Copy(), x.Room()
	dead, e := do()
	if e != api.OK || !slices.Equal(dead, plan.Dies) || x.Room() != room-plan.Room {
		t.Fatal(dead, e, plan, room, x.Room())
	}
	for _, r := range s.Way {
		old, _ := before.Node(r)
		now, _ := x.Node(r)
		if !slices.Contains(plan.Locks, r) && !reflect.DeepEqual(old, now) {
			t.Fatal("changed without a lock", old, now)
		}
		if w, state := x.Begin(r); w&1 != 0 || state != tree.Free {
			t.Fatal("a word was changed", w, state)
		}
	}
	kill(t, x, dead)
}

func TestWords(t *testing.T) {
	x, a := made(t, 10)
	if w, s := x.Begin(a); w != 0 || s != tree.Free {
		t.Error(w, s)
	}
	if x.Back(a) != api.ErrState || x.Done(a) != api.ErrState || x.Kill(a) != api.ErrState {
		t.Error("not locked")
	}
	if x.Lock(a, 4) || !x.Lock(a, 0) || x.Lock(a, 1) || x.Held() != 1 || x.Taken() != 1 {
		t.Error("Lock")
	}
	if w, s := x.Begin(a); w != 1 || s != tree.Held || !x.Check(a, 1) || x.Check(a, 0) {
		t.Error(w, s)
	}
	if x.Kill(a) != api.ErrState {
		t.Error("it did not die")
	}
	if x.Back(a) != api.OK || !x.Lock(a, 0) || x.Done(a) != api.OK || !x.Check(a, 4) || x.Held() != 0 || x.Taken() != 2 {
		t.Error("Back, Done")
	}
	gone := api.Ref{Slot: 0, Gen: 9}
	if w, s := x.Begin(gone); w != 0 || s != tree.Gone || x.Check(gone, 0) || x.Lock(gone, 0) {
		t.Error(w, s)
	}
	if x.Back(gone) != api.ErrNone || x.Done(gone) != api.ErrNone || x.Kill(gone) != api.ErrNone {
		t.Error("gone")
	}
	put(t, x, a, "a")
	s, _ := x.Seek(a, coded("a"))
	leaf := s.Way[1]
	x.Lock(leaf, 0)
	if x.Kill(leaf) != api.ErrState {
		t.Error("a leaf that did not die was killed")
	}
	x.Drop(a, coded("a"))
	room := x.Room()
	if x.Kill(leaf) != api.OK || x.Room() != room+1 || x.Kill(leaf) != api.ErrNone || x.Held() != 0 {
		t.Error("Kill")
	}
	put(t, x, a, "b")
	s, _ = x.Seek(a, coded("b"))
	if s.Way[1] != (api.Ref{Slot: leaf.Slot, Gen: leaf.Gen + 1}) || !x.Check(s.Way[1], 0) {
		t.Error("the word of a new use is 0", s)
	}
}

func TestFellFreesLockedPlacesToo(t *testing.T) {
	x, a := made(t, 10)
	put(t, x, a, "a", "b")
	s, _ := x.Seek(a, coded("a"))
	x.Lock(a, 0)
	x.Lock(s.Way[1], 0)
	dead, _ := x.Drop(a, coded("b"))
	if n, e := x.Fell(a); n != 2 || e != api.OK || x.Held() != 0 || x.Room() != 9 {
		t.Error(n, e, x.Held(), x.Room())
	}
	kill(t, x, dead)
	for _, r := range []api.Ref{a, s.Way[1], {}, {Slot: 99, Gen: 1}} {
		if n, e := x.Fell(r); n != 0 || e != api.ErrNone {
			t.Error(r, n, e)
		}
	}
	if _, is := x.Node(a); is || x.Room() != 10 {
		t.Error("it lives", x.Room())
	}
}

func TestErrors(t *testing.T) {
	x, a := made(t, 4)
	long := strings.Repeat("v", 33)
	put(t, x, a, "a")
	s, _ := x.Seek(a, coded("a"))
	for _, r := range []api.Ref{s.Way[1], {}, {Slot: -1, Gen: 1}} {
		if _, e := x.Seek(r, "no code"); e != api.ErrNone {
			t.Error(e)
		}
		if _, e := x.Plan(r, "no code", true); e != api.ErrNone {
			t.Error(e)
		}
		if l, e := x.Put(r, "no code", long); l != nil || e != api.ErrNone {
			t.Error(e)
		}
		if l, e := x.Drop(r, "no code"); l != nil || e != api.ErrNone {
			t.Error(e)
		}
		for range x.All(r) {
			t.Error("not an anchor")
		}
	}
	if s, e := x.Seek(a, "no code"); !reflect.DeepEqual(s, tree.Spot{}) || e != api.ErrArg {
		t.Error(s, e)
	}
	if c, e := x.Plan(a, "no code", false); !reflect.DeepEqual(c, tree.Change{}) || e != api.ErrArg {
		t.Error(c, e)
	}
	if l, e := x.Put(a, "no code", ""); l != nil || e != api.ErrArg {
		t.Error(l, e)
	}
	if l, e := x.Put(a, coded("b"), long); l != nil || e != api.ErrArg {
		t.Error(l, e)
	}
	if l, e := x.Drop(a, "no code"); l != nil || e != api.ErrArg {
		t.Error(l, e)
	}
	put(t, x, a, "b")
	if l, e := x.Put(a, coded("ab"), ""); l != nil || e != api.ErrFull || x.Room() != 1 {
		t.Error("two places are needed", l, e)
	}
	put(t, x, a, "c", "a")
	if l, e := x.Put(a, coded("d"), ""); l != nil || e != api.ErrFull {
		t.Error(l, e)
	}
	if l, e := x.Put(a, coded("c"), "new"); l != nil || e != api.OK {
		t.Error("a value needs no place", l, e)
	}
}

func TestNodesAreNew(t *testing.T) {
	x, a := made(t, 9)
	put(t, x, a, "a", "b")
	n, _ := x.Node(a)
	n.Bytes[0], n.Kids[0] = 'z', api.Ref{}
	if m, _ := x.Node(a); m.Bytes[0] != 'a' || m.Kids[0] == (api.Ref{}) {
		t.Error(m)
	}
}

func TestCopyIsIndependent(t *testing.T) {
	x, a := made(t, 20)
	put(t, x, a, "a", "ab")
	x.Lock(a, 0)
	c := x.Copy()
	x.Done(a)
	put(t, x, a, "b", "abc")
	dead, _ := c.Drop(a, coded("ab"))
	kill(t, c, dead)
	model := art.New()
	model.Put(coded("a"), "va")
	like(t, c, a, model, 19)
	if !c.Check(a, 1) || c.Held() != 1 || c.Taken() != x.Taken()+2 {
		t.Error(c.Held(), c.Taken(), x.Taken())
	}
	for _, k := range []string{"ab", "abc", "b"} {
		model.Put(coded(k), "v"+k)
	}
	like(t, x, a, model, 19)
}

func TestAllStaysSafe(t *testing.T) {
	x, a := made(t, 40)
	put(t, x, a, "a", "b1", "b2", "c")
	var got []string
	for c := range x.All(a) {
		got = append(got, c)
		if len(got) == 1 {
			dead, _ := x.Drop(a, coded("b1"))
			kill(t, x, dead)
			put(t, x, a, "b3", "b4", "b5", "b6", "b7")
		}
	}
	for _, k := range []string{"a", "b2", "c"} {
		if !slices.Contains(got, coded(k)) {
			t.Error(k, "did not change")
		}
	}
	for range x.All(a) {
		break
	}
}

func TestNil(t *testing.T) {
	r := api.Ref{Slot: 0, Gen: 1}
	for _, x := range []*tree.Tree{nil, {}} {
		_, plant := x.Plant()
		_, fell := x.Fell(r)
		_, seek := x.Seek(r, "")
		_, plan := x.Plan(r, "", true)
		_, put := x.Put(r, "", "")
		_, drop := x.Drop(r, "")
		for i, e := range []api.Errno{plant, fell, seek, plan, put, drop, x.Back(r), x.Done(r), x.Kill(r)} {
			if e != api.ErrNil {
				t.Error(i, e)
			}
		}
		if w, s := x.Begin(r); w != 0 || s != tree.Gone {
			t.Error(w, s)
		}
		if n, is := x.Node(r); !reflect.DeepEqual(n, api.Node{}) || is || x.Check(r, 0) || x.Lock(r, 0) || x.Room() != 0 || x.Held() != 0 || x.Taken() != 0 || x.Copy() != nil {
			t.Error("not nothing")
		}
		for range x.All(r) {
			t.Error("something")
		}
	}
}
