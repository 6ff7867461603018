package node_test

import (
	"math"
	"reflect"
	"slices"
	"strings"
	"testing"

	"burgage/api"
	"burgage/node"
)

func ref(n int) api.Ref { return api.Ref{Slot: n, Gen: 1} }

// inner returns an inner node of a Kind, with kids at some bytes.
func inner(k api.Kind, path string, bytes ...byte) api.Node {
	n := api.Node{Kind: k, Path: path, Bytes: bytes}
	for _, b := range bytes {
		n.Kids = append(n.Kids, ref(int(b)))
	}
	return n
}

func upTo(n int) []byte {
	var l []byte
	for i := range n {
		l = append(l, byte(i))
	}
	return l
}

func TestKinds(t *testing.T) {
	for k, room := range map[api.Kind]int{api.Leaf: 0, api.Node4: 4, api.Node16: 16, api.Node48: 48, api.Node256: 256, 0: 0, -1: 0, 6: 0, math.MaxInt: 0, math.MinInt: 0} {
		if got := node.Room(k); got != room {
			t.Error("Room", k, got)
		}
	}
	for kids, k := range map[int]api.Kind{0: api.Node4, 1: api.Node4, 4: api.Node4, 5: api.Node16, 16: api.Node16, 17: api.Node48, 48: api.Node48, 49: api.Node256, 256: api.Node256} {
		if got, is := node.Of(kids); got != k || !is {
			t.Error("Of", kids, got, is)
		}
	}
	for _, kids := range []int{-1, 257, math.MinInt, math.MaxInt} {
		if got, is := node.Of(kids); got != 0 || is {
			t.Error("Of", kids, got, is)
		}
	}
}

func TestLeaves(t *testing.T) {
	leaf := api.Node{Kind: api.Leaf, Code: "a\x00\x00", Value: strings.Repeat("v", 32)}
	if !node.Right(leaf) || node.Anchor(leaf) {
		t.Error("a leaf")
	}
	for i, change := range []func(*api.Node){
		func(n *api.Node) { n.Code = "a" },
		func(n *api.Node) { n.Code = "" },
		func(n *api.Node) { n.Value += "v" },
		func(n *api.Node) { n.Path = "p" },
		func(n *api.Node) { n.Bytes = []byte{1} },
		func(n *api.Node) { n.Kids = []api.Ref{ref(1)} },
		func(n *api.Node) { n.Kind = 0 },
		func(n *api.Node) { n.Kind = api.Node4 },
	} {
		n := leaf
		change(&n)
		if node.Right(n) {
			t.Error("wrong leaf", i)
		}
	}
	refuses(t, leaf)
}

func TestInnerNodes(t *testing.T) {
	for kids := range 257 {
		for k := api.Leaf; k <= api.Node256; k++ {
			want, _ := node.Of(kids)
			if got := node.Right(inner(k, "p", upTo(kids)...)); got != (kids >= 2 && k == want) {
				t.Error(kids, k, got)
			}
		}
		if !node.Anchor(inner(api.Node256, "", upTo(kids)...)) || node.Anchor(inner(api.Node256, "p", upTo(kids)...)) {
			t.Error("Anchor", kids)
		}
	}
	if !node.Right(inner(api.Node4, strings.Repeat("p", 34), 0, 255)) {
		t.Error("a long path")
	}
	for i, change := range []func(*api.Node){
		func(n *api.Node) { n.Code = "a\x00\x00" },
		func(n *api.Node) { n.Value = "v" },
		func(n *api.Node) { n.Path = strings.Repeat("p", 35) },
		func(n *api.Node) { n.Bytes = []byte{1, 3, 2} },
		func(n *api.Node) { n.Bytes = []byte{1, 2, 2} },
		func(n *api.Node) { n.Bytes = []byte{1, 2} },
		func(n *api.Node) { n.Kids = n.Kids[:2] },
		func(n *api.Node) { n.Kids = []api.Ref{ref(1), ref(-1), ref(3)} },
		func(n *api.Node) { n.Kids = []api.Ref{ref(1), ref(4096), ref(3)} },
		func(n *api.Node) { n.Kids = []api.Ref{ref(1), {Slot: 2}, ref(3)} },
		func(n *api.Node) { n.Kind = 7 },
	} {
		for _, n := range []api.Node{inner(api.Node4, "p", 1, 2, 3), inner(api.Node256, "", 1, 2, 3)} {
			change(&n)
			if node.Right(n) || node.Anchor(n) {
				t.Error("wrong node", i)
			}
			refuses(t, n)
		}
	}
	refuses(t, inner(api.Node4, "", 1))
	refuses(t, inner(api.Node16, "", 1, 2))
}

// refuses checks that every call refuses a node whose kids cannot be asked for.
func refuses(t *testing.T, n api.Node) {
	t.Helper()
	if r, is := node.Find(n, 1); r != (api.Ref{}) || is {
		t.Error("Find", r)
	}
	if b, r, is := node.Next(n, 0); b != 0 || r != (api.Ref{}) || is {
		t.Error("Next", b, r)
	}
	if b, r, is := node.Rest(n, 1); b != 0 || r != (api.Ref{}) || is {
		t.Error("Rest", b, r)
	}
	if node.Full(n) {
		t.Error("Full")
	}
	zero := func(n api.Node, e api.Errno) {
		t.Helper()
		if !reflect.DeepEqual(n, api.Node{}) || e != api.ErrShape {
			t.Error(n, e)
		}
	}
	zero(node.Add(n, 1, ref(1), false))
	zero(node.Cut(n, 200, false))
	zero(node.Turn(n, 200, ref(1)))
}

func TestFindNextFullRest(t *testing.T) {
	n := inner(api.Node4, "p", 0, 7, 255)
	if r, is := node.Find(n, 7); r != ref(7) || !is {
		t.Error(r, is)
	}
	if r, is := node.Find(n, 8); r != (api.Ref{}) || is {
		t.Error(r, is)
	}
	for from, want := range map[int]byte{-5: 0, 0: 0, 1: 7, 7: 7, 8: 255, 255: 255} {
		if b, r, is := node.Next(n, from); b != want || r != ref(int(want)) || !is {
			t.Error(from, b, r, is)
		}
	}
	if b, r, is := node.Next(n, 256); b != 0 || r != (api.Ref{}) || is {
		t.Error(b, r, is)
	}
	if node.Full(n) || !node.Full(inner(api.Node4, "", 1, 2, 3, 4)) || node.Full(inner(api.Node256, "", upTo(255)...)) || !node.Full(inner(api.Node256, "", upTo(256)...)) {
		t.Error("Full")
	}
	two := inner(api.Node4, "p", 3, 9)
	if b, r, is := node.Rest(two, 3); b != 9 || r != ref(9) || !is {
		t.Error(b, r, is)
	}
	if b, r, is := node.Rest(two, 9); b != 3 || r != ref(3) || !is {
		t.Error(b, r, is)
	}
	if b, r, is := node.Rest(inner(api.Node256, "", 3, 9), 9); b != 3 || r != ref(3) || !is {
		t.Error("of an anchor", b, r, is)
	}
	for _, c := range []api.Node{n, inner(api.Node256, "", 7)} {
		if b, r, is := node.Rest(c, 7); b != 0 || r != (api.Ref{}) || is {
			t.Error(b, r, is)
		}
	}
	if b, r, is := node.Rest(two, 4); b != 0 || r != (api.Ref{}) || is {
		t.Error(b, r, is)
	}
}

func TestAddAndCut(t *testing.T) {
	for _, kids := range []int{2, 3, 4, 15, 16, 17, 47, 48, 49, 254, 255} {
		kind, _ := node.Of(kids)
		n := inner(kind, "path", upTo(kids)...)
		more, e := node.Add(n, 255, ref(255), false)
		want, _ := node.Of(kids + 1)
		if e != api.OK || more.Kind != want || more.Path != "path" || !node.Right(more) || len(more.Kids) != kids+1 {
			t.Fatal(kids, e, more)
		}
		if r, is := node.Find(more, 255); r != ref(255) || !is {
			t.Error(kids, r, is)
		}
		back, e := node.Cut(more, 255, false)
		if e != api.OK || !reflect.DeepEqual(back, n) {
			t.Error(kids, e, back)
		}
		kept, e := node.Cut(more, 255, true)
		if e != api.OK || kept.Kind != more.Kind || !slices.Equal(kept.Bytes, n.Bytes) {
			t.Error(kids, e, kept)
		}
	}
	one, e := node.Cut(inner(api.Node4, "", 1, 2), 1, false)
	if e != api.OK || !reflect.DeepEqual(one, inner(api.Node4, "", 2)) {
		t.Error(one, e)
	}
}

func TestKeep(t *testing.T) {
	if n, e := node.Add(inner(api.Node4, "", 1, 2, 3, 4), 5, ref(5), true); !reflect.DeepEqual(n, api.Node{}) || e != api.ErrFull {
		t.Error(n, e)
	}
	if n, e := node.Add(inner(api.Node4, "", 1, 2, 3), 0, ref(0), true); e != api.OK || !reflect.DeepEqual(n, inner(api.Node4, "", 0, 1, 2, 3)) {
		t.Error(n, e)
	}
	anchor := inner(api.Node256, "")
	for b := range 256 {
		n, e := node.Add(anchor, byte(b), ref(b), true)
		if e != api.OK || n.Kind != api.Node256 {
			t.Fatal(b, e, n)
		}
		anchor = n
	}
	if n, e := node.Cut(inner(api.Node256, "", 1), 1, true); e != api.OK || n.Kind != api.Node256 || !node.Anchor(n) {
		t.Error(n, e)
	}
	if n, e := node.Add(inner(api.Node256, "", upTo(17)...), 20, ref(20), false); e != api.OK || n.Kind != api.Node48 {
		t.Error(n, e)
	}
}

func TestErrors(t *testing.T) {
	n := inner(api.Node4, "", 1, 2, 3, 4)
	zero := func(want api.Errno) func(api.Node, api.Errno) {
		return func(n api.Node, e api.Errno) {
			t.Helper()
			if !reflect.DeepEqual(n, api.Node{}) || e != want {
				t.Error(n, e)
			}
		}
	}
	zero(api.ErrTwice)(node.Add(n, 1, ref(9), true))
	zero(api.ErrTwice)(node.Add(inner(api.Node256, "", upTo(256)...), 9, ref(9), false))
	for _, r := range []api.Ref{{}, {Slot: -1, Gen: 1}, {Slot: api.MaxSlots, Gen: 1}, {Slot: 3}} {
		zero(api.ErrShape)(node.Add(n, 1, r, true))
		zero(api.ErrShape)(node.Turn(n, 9, r))
	}
	zero(api.ErrNone)(node.Cut(n, 9, false))
	zero(api.ErrNone)(node.Turn(n, 9, ref(1)))
}

func TestTurn(t *testing.T) {
	n := inner(api.Node4, "p", 1, 2, 3)
	turned, e := node.Turn(n, 2, ref(100))
	if e != api.OK || !slices.Equal(turned.Kids, []api.Ref{ref(1), ref(100), ref(3)}) || turned.Kind != api.Node4 || turned.Path != "p" {
		t.Error(turned, e)
	}
	if n.Kids[1] != ref(2) {
		t.Error("the argument was changed")
	}
}

func TestResultsShareNoMemory(t *testing.T) {
	n := inner(api.Node16, "", upTo(8)...)
	n.Bytes, n.Kids = slices.Grow(n.Bytes, 9), slices.Grow(n.Kids, 9)
	before := inner(api.Node16, "", upTo(8)...)
	for _, f := range []func() (api.Node, api.Errno){
		func() (api.Node, api.Errno) { return node.Add(n, 9, ref(9), true) },
		func() (api.Node, api.Errno) { return node.Cut(n, 7, true) },
		func() (api.Node, api.Errno) { return node.Turn(n, 7, ref(9)) },
	} {
		out, e := f()
		if e != api.OK {
			t.Fatal(e)
		}
		for i := range out.Bytes {
			out.Bytes[i], out.Kids[i] = 99, ref(99)
		}
		if !reflect.DeepEqual(n, before) || n.Bytes[:9][8] != 0 {
			t.Error("shared memory")
		}
	}
}
