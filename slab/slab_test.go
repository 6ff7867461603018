package slab

import (
	"math"
	"testing"

	"burgage/api"
)

func ref(slot int, gen uint32) api.Ref { return api.Ref{Slot: slot, Gen: gen} }

func made(t *testing.T, slots int) *Slab[string] {
	t.Helper()
	s, e := New[string](slots)
	if s == nil || e != api.OK {
		t.Fatal("New", slots, e)
	}
	return s
}

func take(t *testing.T, s *Slab[string], x string, want api.Ref) {
	t.Helper()
	if r, e := s.Take(x); r != want || e != api.OK {
		t.Fatal("Take", x, "is", r, e)
	}
}

func TestNew(t *testing.T) {
	for _, slots := range []int{-1, 0, api.MaxSlots + 1, math.MinInt, math.MaxInt} {
		if s, e := New[int](slots); s != nil || e != api.ErrArg {
			t.Error(slots, s, e)
		}
	}
	for _, slots := range []int{1, 7, api.MaxSlots} {
		if s := made(t, slots); s.Len() != 0 || s.Left() != slots {
			t.Error(slots, s.Len(), s.Left())
		}
	}
}

func TestTakeAndFree(t *testing.T) {
	s := made(t, 2)
	take(t, s, "a", ref(0, 1))
	take(t, s, "b", ref(1, 1))
	if r, e := s.Take("c"); r != ref(0, 0) || e != api.ErrFull {
		t.Error("full", r, e)
	}
	if s.Len() != 2 || s.Left() != 0 {
		t.Error(s.Len(), s.Left())
	}
	if e := s.Free(ref(0, 1)); e != api.OK {
		t.Error(e)
	}
	if e := s.Free(ref(0, 1)); e != api.ErrNone {
		t.Error("freed twice", e)
	}
	take(t, s, "c", ref(0, 2))
	if x, is := s.Get(ref(0, 1)); x != "" || is {
		t.Error("an old reference", x, is)
	}
	if x, is := s.Get(ref(0, 2)); x != "c" || !is {
		t.Error(x, is)
	}
}

func TestLowestFreeSlot(t *testing.T) {
	s := made(t, 5)
	for i := range 5 {
		take(t, s, "x", ref(i, 1))
	}
	for _, slot := range []int{3, 1, 4} {
		s.Free(ref(slot, 1))
	}
	take(t, s, "y", ref(1, 2))
	s.Free(ref(0, 1))
	take(t, s, "y", ref(0, 2))
	take(t, s, "y", ref(3, 2))
	take(t, s, "y", ref(4, 2))
}

func TestInvalidRefs(t *testing.T) {
	s := made(t, 3)
	take(t, s, "a", ref(0, 1))
	for _, r := range []api.Ref{{}, ref(0, 2), ref(1, 0), ref(1, 1), ref(-1, 1), ref(3, 1), ref(math.MaxInt, 1), ref(math.MinInt, 1)} {
		if _, is := s.Get(r); is {
			t.Error("Get", r)
		}
		if e := s.Set(r, "z"); e != api.ErrNone {
			t.Error("Set", r, e)
		}
		if e := s.Free(r); e != api.ErrNone {
			t.Error("Free", r, e)
		}
	}
	if e := s.Set(ref(0, 1), "z"); e != api.OK {
		t.Error(e)
	}
	if x, is := s.Get(ref(0, 1)); x != "z" || !is {
		t.Error(x, is)
	}
}

func TestAllIsAsItWasAtTheBeginning(t *testing.T) {
	s := made(t, 4)
	all := s.All()
	for i, x := range []string{"a", "b", "c"} {
		take(t, s, x, ref(i, 1))
	}
	s.Free(ref(1, 1))
	text, n := "", 0
	for r, x := range all {
		s.Set(ref(2, 1), "changed")
		s.Free(ref(2, 1))
		s.Take("new")
		if r.Gen != 1 || r.Slot != n*2 {
			t.Error(r)
		}
		text += x
		n++
	}
	if text != "ac" {
		t.Error(text)
	}
	for range all {
		n++
		break
	}
	if n != 3 {
		t.Error("it goes on after the end", n)
	}
}

func TestCopyIsIndependent(t *testing.T) {
	s := made(t, 2)
	take(t, s, "a", ref(0, 1))
	c := s.Copy()
	s.Set(ref(0, 1), "b")
	s.Free(ref(0, 1))
	if x, is := c.Get(ref(0, 1)); x != "a" || !is || c.Len() != 1 || c.Left() != 1 {
		t.Error(x, is, c.Len(), c.Left())
	}
	take(t, c, "d", ref(1, 1))
	take(t, s, "e", ref(0, 2))
}

func TestWornOut(t *testing.T) {
	s := made(t, 2)
	s.list[0].uses = math.MaxUint32 - 1
	take(t, s, "last", ref(0, math.MaxUint32))
	if s.Left() != 1 {
		t.Error(s.Left())
	}
	if e := s.Free(ref(0, math.MaxUint32)); e != api.OK || s.Left() != 1 || s.Len() != 0 {
		t.Error(e, s.Left(), s.Len())
	}
	take(t, s, "a", ref(1, 1))
	if r, e := s.Take("b"); r != (api.Ref{}) || e != api.ErrFull {
		t.Error("a worn slot was used", r, e)
	}
}

func TestNil(t *testing.T) {
	for _, s := range []*Slab[string]{nil, {}} {
		r, e := s.Take("a")
		if r != (api.Ref{}) || e != api.ErrNil || s.Free(ref(0, 1)) != api.ErrNil || s.Set(ref(0, 1), "a") != api.ErrNil {
			t.Error(r, e)
		}
		if x, is := s.Get(ref(0, 1)); x != "" || is {
			t.Error(x, is)
		}
		for range s.All() {
			t.Error("something")
		}
		if s.Len() != 0 || s.Left() != 0 || s.Copy() != nil {
			t.Error("not nothing")
		}
	}
}
