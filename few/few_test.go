package few_test

import (
	"math"
	"slices"
	"testing"

	"burgage/api"
	"burgage/few"
)

func ref(n int) api.Ref { return api.Ref{Slot: n, Gen: uint32(n)} }

func made(t *testing.T, room int, bytes ...byte) *few.Few {
	t.Helper()
	k, e := few.New(room)
	if k == nil || e != api.OK || k.Room() != room || k.Len() != 0 {
		t.Fatal(room, k, e)
	}
	for _, b := range bytes {
		if e := k.Put(b, ref(int(b))); e != api.OK {
			t.Fatal("Put", b, e)
		}
	}
	return k
}

func bytes(k *few.Few) []byte {
	var l []byte
	for b := range k.All() {
		l = append(l, b)
	}
	return l
}

func TestNew(t *testing.T) {
	for _, room := range []int{-1, 0, 3, 5, 15, 17, 48, 256, math.MinInt} {
		if k, e := few.New(room); k != nil || e != api.ErrArg {
			t.Error(room, k, e)
		}
	}
}

func TestExample(t *testing.T) {
	k := made(t, 4, 9, 3, 7)
	if b, r, is := k.Next(4); b != 7 || r != ref(7) || !is {
		t.Error(b, r, is)
	}
	if e := k.Put(3, ref(1)); e != api.ErrTwice {
		t.Error(e)
	}
	if e := k.Put(1, ref(1)); e != api.OK {
		t.Error(e)
	}
	if e := k.Put(2, ref(2)); e != api.ErrFull {
		t.Error(e)
	}
	if e := k.Put(3, ref(2)); e != api.ErrTwice {
		t.Error("there already, and full:", e)
	}
	if r, e := k.Take(3); r != ref(3) || e != api.OK {
		t.Error(r, e)
	}
	if b, r, is := k.Next(0); b != 1 || r != ref(1) || !is {
		t.Error(b, r, is)
	}
	if got := bytes(k); !slices.Equal(got, []byte{1, 7, 9}) || k.Len() != 3 {
		t.Error(got)
	}
}

func TestFull(t *testing.T) {
	for _, room := range []int{4, 16} {
		k := made(t, room)
		for i := range room {
			if e := k.Put(byte(255-17*i), ref(i)); e != api.OK {
				t.Error(i, e)
			}
		}
		if e := k.Put(1, ref(1)); e != api.ErrFull || k.Len() != room {
			t.Error(e, k.Len())
		}
		if !slices.IsSorted(bytes(k)) {
			t.Error(bytes(k))
		}
	}
}

func TestTurnTakeFind(t *testing.T) {
	k := made(t, 16, 0, 255, 128)
	if e := k.Turn(128, ref(1)); e != api.OK {
		t.Error(e)
	}
	if r, is := k.Find(128); r != ref(1) || !is {
		t.Error(r, is)
	}
	if e := k.Turn(127, ref(1)); e != api.ErrNone {
		t.Error(e)
	}
	if r, e := k.Take(127); r != (api.Ref{}) || e != api.ErrNone {
		t.Error(r, e)
	}
	if r, is := k.Find(127); r != (api.Ref{}) || is {
		t.Error(r, is)
	}
	for _, b := range []byte{255, 0, 128} {
		if _, e := k.Take(b); e != api.OK {
			t.Error(b, e)
		}
	}
	if k.Len() != 0 || k.Room() != 16 {
		t.Error(k.Len(), k.Room())
	}
}

func TestNext(t *testing.T) {
	k := made(t, 4, 0, 10, 255)
	for from, want := range map[int]byte{math.MinInt: 0, -1: 0, 0: 0, 1: 10, 10: 10, 11: 255, 255: 255} {
		if b, r, is := k.Next(from); b != want || r != ref(int(want)) || !is {
			t.Error(from, b, r, is)
		}
	}
	for _, from := range []int{256, math.MaxInt} {
		if b, r, is := k.Next(from); b != 0 || r != (api.Ref{}) || is {
			t.Error(from, b, r, is)
		}
	}
}

func TestAllIsAsItWasAtTheBeginning(t *testing.T) {
	k := made(t, 4, 5, 6)
	all := k.All()
	k.Put(4, ref(4))
	var got []byte
	for b, r := range all {
		got = append(got, b)
		if r != ref(int(b)) {
			t.Error(b, r)
		}
		k.Take(6)
		k.Put(7, ref(7))
		k.Turn(5, ref(1))
	}
	if !slices.Equal(got, []byte{4, 5, 6}) {
		t.Error(got)
	}
	for range all {
		break
	}
}

func TestOrderOfOperationsDoesNotMatter(t *testing.T) {
	a := made(t, 4, 1, 2, 3, 4)
	b := made(t, 4, 4, 9, 3, 1)
	b.Take(9)
	b.Put(2, ref(2))
	if !slices.Equal(bytes(a), bytes(b)) {
		t.Error(bytes(a), bytes(b))
	}
	for x, r := range a.All() {
		if got, is := b.Find(x); got != r || !is {
			t.Error(x, got, is)
		}
	}
}

func TestCopyIsIndependent(t *testing.T) {
	k := made(t, 4, 1, 2)
	c := k.Copy()
	k.Take(1)
	c.Put(3, ref(3))
	if !slices.Equal(bytes(k), []byte{2}) || !slices.Equal(bytes(c), []byte{1, 2, 3}) || c.Room() != 4 {
		t.Error(bytes(k), bytes(c))
	}
}

func TestNil(t *testing.T) {
	for _, k := range []*few.Few{nil, {}} {
		r, e := k.Take(1)
		if r != (api.Ref{}) || e != api.ErrNil || k.Put(1, ref(1)) != api.ErrNil || k.Turn(1, ref(1)) != api.ErrNil {
			t.Error(r, e)
		}
		if r, is := k.Find(1); r != (api.Ref{}) || is {
			t.Error(r, is)
		}
		if b, r, is := k.Next(0); b != 0 || r != (api.Ref{}) || is {
			t.Error(b, r, is)
		}
		if len(bytes(k)) != 0 || k.Len() != 0 || k.Room() != 0 || k.Copy() != nil {
			t.Error("not nothing")
		}
	}
}
