package many_test

import (
	"math"
	"slices"
	"testing"

	"burgage/api"
	"burgage/many"
)

func ref(n int) api.Ref { return api.Ref{Slot: n, Gen: uint32(n)} }

func made(t *testing.T, room int, bytes ...byte) *many.Many {
	t.Helper()
	k, e := many.New(room)
	if k == nil || e != api.OK || k.Room() != room || k.Len() != 0 {
		t.Fatal(room, k, e)
	}
	for _, b := range bytes {
		if e := k.Put(b, ref(int(b))); e != api.OK {
			t.Fatal("Put", b, e)
		}
	}
	return k
}

func bytes(k *many.Many) []byte {
	var l []byte
	for b := range k.All() {
		l = append(l, b)
	}
	return l
}

func TestNew(t *testing.T) {
	for _, room := range []int{-1, 0, 4, 16, 47, 49, 255, 257, math.MaxInt} {
		if k, e := many.New(room); k != nil || e != api.ErrArg {
			t.Error(room, k, e)
		}
	}
}

func TestExample(t *testing.T) {
	k := made(t, 48)
	for b := 10; b <= 57; b++ {
		if e := k.Put(byte(b), ref(b)); e != api.OK {
			t.Error(b, e)
		}
	}
	if e := k.Put(58, ref(58)); e != api.ErrFull {
		t.Error(e)
	}
	if e := k.Put(57, ref(58)); e != api.ErrTwice {
		t.Error("there already, and full:", e)
	}
	if r, e := k.Take(20); r != ref(20) || e != api.OK {
		t.Error(r, e)
	}
	if e := k.Put(58, ref(58)); e != api.OK || k.Len() != 48 {
		t.Error(e, k.Len())
	}
	if b, r, is := k.Next(20); b != 21 || r != ref(21) || !is {
		t.Error(b, r, is)
	}
	for b := 10; b <= 58; b++ {
		if r, is := k.Find(byte(b)); is != (b != 20) || is && r != ref(b) {
			t.Error(b, r, is)
		}
	}
}

func TestAllBytes(t *testing.T) {
	k := made(t, 256)
	for i := range 256 {
		if e := k.Put(byte(i*37), ref(i*37%256)); e != api.OK {
			t.Error(i, e)
		}
	}
	if k.Len() != 256 || !slices.IsSorted(bytes(k)) || k.Put(9, ref(1)) != api.ErrTwice {
		t.Error(k.Len(), bytes(k))
	}
	for i := range 256 {
		b := byte(i * 91)
		if r, e := k.Take(b); r != ref(int(b)) || e != api.OK {
			t.Error(b, r, e)
		}
		if _, is := k.Find(b); is || k.Len() != 255-i {
			t.Error(b, k.Len())
		}
	}
}

func TestTurnTakeFind(t *testing.T) {
	k := made(t, 48, 0, 255, 128)
	if e := k.Turn(128, ref(1)); e != api.OK {
		t.Error(e)
	}
	if r, is := k.Find(128); r != ref(1) || !is {
		t.Error(r, is)
	}
	if e := k.Turn(127, ref(1)); e != api.ErrNone {
		t.Error(e)
	}
	if r, e := k.Take(127); r != (api.Ref{}) || e != api.ErrNone {
		t.Error(r, e)
	}
	if r, is := k.Find(127); r != (api.Ref{}) || is {
		t.Error(r, is)
	}
}

func TestNext(t *testing.T) {
	k := made(t, 256, 0, 10, 255)
	for from, want := range map[int]byte{math.MinInt: 0, -1: 0, 0: 0, 1: 10, 10: 10, 11: 255, 255: 255} {
		if b, r, is := k.Next(from); b != want || r != ref(int(want)) || !is {
			t.Error(from, b, r, is)
		}
	}
	for _, from := range []int{256, math.MaxInt} {
		if b, r, is := k.Next(from); b != 0 || r != (api.Ref{}) || is {
			t.Error(from, b, r, is)
		}
	}
}

func TestAllIsAsItWasAtTheBeginning(t *testing.T) {
	k := made(t, 48, 5, 6)
	all := k.All()
	k.Put(4, ref(4))
	var got []byte
	for b, r := range all {
		got = append(got, b)
		if r != ref(int(b)) {
			t.Error(b, r)
		}
		k.Take(6)
		k.Put(7, ref(7))
		k.Turn(5, ref(1))
	}
	if !slices.Equal(got, []byte{4, 5, 6}) {
		t.Error(got)
	}
	for range all {
		break
	}
}

func TestOrderOfOperationsDoesNotMatter(t *testing.T) {
	a := made(t, 48, 1, 2, 3, 4)
	b := made(t, 48, 4, 9, 3, 1, 7)
	b.Take(9)
	b.Put(2, ref(2))
	b.Take(7)
	if !slices.Equal(bytes(a), bytes(b)) {
		t.Error(bytes(a), bytes(b))
	}
	for x := range a.All() {
		p, _ := a.Find(x)
		if q, _ := b.Find(x); p != q {
			t.Error(x, p, q)
		}
	}
}

func TestCopyIsIndependent(t *testing.T) {
	k := made(t, 48, 1, 2)
	c := k.Copy()
	k.Take(1)
	c.Put(3, ref(3))
	c.Turn(2, ref(9))
	if r, _ := k.Find(2); r != ref(2) {
		t.Error(r)
	}
	if !slices.Equal(bytes(k), []byte{2}) || !slices.Equal(bytes(c), []byte{1, 2, 3}) || c.Room() != 48 {
		t.Error(bytes(k), bytes(c))
	}
}

func TestNil(t *testing.T) {
	for _, k := range []*many.Many{nil, {}} {
		r, e := k.Take(1)
		if r != (api.Ref{}) || e != api.ErrNil || k.Put(1, ref(1)) != api.ErrNil || k.Turn(1, ref(1)) != api.ErrNil {
			t.Error(r, e)
		}
		if r, is := k.Find(1); r != (api.Ref{}) || is {
			t.Error(r, is)
		}
		if b, r, is := k.Next(0); b != 0 || r != (api.Ref{}) || is {
			t.Error(b, r, is)
		}
		if len(bytes(k)) != 0 || k.Len() != 0 || k.Room() != 0 || k.Copy() != nil {
			t.Error("not nothing")
		}
	}
}
