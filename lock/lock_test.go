package lock_test

import (
	"math"
	"testing"

	"burgage/api"
	"burgage/lock"
)

var (
	r0 = api.Ref{Slot: 0, Gen: 1}
	r1 = api.Ref{Slot: api.MaxSlots - 1, Gen: math.MaxUint32}
)

func with(t *testing.T, refs ...api.Ref) *lock.Locks {
	t.Helper()
	l := lock.New()
	for _, r := range refs {
		if e := l.Add(r); e != api.OK {
			t.Fatal(r, e)
		}
	}
	return l
}

func begins(t *testing.T, l *lock.Locks, r api.Ref, w api.Word, s lock.State) {
	t.Helper()
	if gotW, gotS := l.Begin(r); gotW != w || gotS != s {
		t.Error("Begin", r, gotW, gotS)
	}
}

func TestAddAndGone(t *testing.T) {
	l := with(t, r0, r1)
	for _, r := range []api.Ref{{}, {Slot: -1, Gen: 1}, {Slot: api.MaxSlots, Gen: 1}, {Slot: 3, Gen: 0}} {
		if e := l.Add(r); e != api.ErrArg {
			t.Error("Add", r, e)
		}
		if e := l.Gone(r); e != api.ErrNone {
			t.Error("Gone", r, e)
		}
	}
	if e := l.Add(r0); e != api.ErrTwice {
		t.Error(e)
	}
	l.Lock(r0, 0)
	if l.Len() != 2 || l.Held() != 1 {
		t.Error(l.Len(), l.Held())
	}
	if e := l.Gone(r0); e != api.OK || l.Len() != 1 || l.Held() != 0 || l.Taken() != 1 {
		t.Error(e, l.Len(), l.Held(), l.Taken())
	}
	if e := l.Gone(r0); e != api.ErrNone {
		t.Error(e)
	}
	begins(t, l, r0, 0, lock.Gone)
	if e := l.Add(r0); e != api.OK {
		t.Error(e)
	}
	begins(t, l, r0, 0, lock.Free)
}

func TestOneWord(t *testing.T) {
	l := with(t, r0)
	begins(t, l, r0, 0, lock.Free)
	if !l.Lock(r0, 0) || l.Lock(r0, 0) || l.Lock(r0, 1) {
		t.Error("Lock of 0")
	}
	begins(t, l, r0, 1, lock.Held)
	if !l.Check(r0, 1) || l.Check(r0, 0) || l.Check(r1, 0) {
		t.Error("Check")
	}
	if e := l.Done(r0); e != api.OK {
		t.Error(e)
	}
	begins(t, l, r0, 4, lock.Free)
	if l.Lock(r0, 0) || !l.Lock(r0, 4) {
		t.Error("Lock of 4")
	}
	if e := l.Drop(r0); e != api.OK {
		t.Error(e)
	}
	begins(t, l, r0, 4, lock.Free)
	if !l.Lock(r0, 4) || l.Kill(r0) != api.OK {
		t.Error("Kill")
	}
	begins(t, l, r0, 10, lock.Gone)
	if l.Lock(r0, 10) || !l.Check(r0, 10) || l.Len() != 1 || l.Held() != 0 || l.Taken() != 3 {
		t.Error("a dead word", l.Len(), l.Held(), l.Taken())
	}
	if e := l.Gone(r0); e != api.OK || l.Held() != 0 {
		t.Error(e, l.Held())
	}
}

func TestReleaseNeedsAHeldWord(t *testing.T) {
	l := with(t, r0)
	for i, f := range []func(api.Ref) api.Errno{l.Drop, l.Done, l.Kill} {
		if e := f(r1); e != api.ErrNone {
			t.Error(i, e)
		}
		if e := f(r0); e != api.ErrState {
			t.Error(i, e)
		}
	}
	begins(t, l, r0, 0, lock.Free)
	l.Lock(r0, 0)
	l.Kill(r0)
	for i, f := range []func(api.Ref) api.Errno{l.Drop, l.Done, l.Kill} {
		if e := f(r0); e != api.ErrState {
			t.Error("dead", i, e)
		}
	}
	begins(t, l, r0, 6, lock.Gone)
}

func TestCounts(t *testing.T) {
	l := with(t, r0, r1)
	l.Lock(r0, 0)
	l.Lock(r1, 0)
	l.Lock(r1, 0)
	if l.Held() != 2 || l.Taken() != 2 {
		t.Error(l.Held(), l.Taken())
	}
	l.Drop(r0)
	l.Lock(r0, 0)
	l.Done(r1)
	if l.Held() != 1 || l.Taken() != 3 || l.Len() != 2 {
		t.Error(l.Held(), l.Taken(), l.Len())
	}
}

func TestCopyIsIndependent(t *testing.T) {
	l := with(t, r0)
	l.Lock(r0, 0)
	c := l.Copy()
	l.Done(r0)
	l.Add(r1)
	begins(t, c, r0, 1, lock.Held)
	if c.Held() != 1 || c.Taken() != 1 || c.Len() != 1 {
		t.Error(c.Held(), c.Taken(), c.Len())
	}
	c.Kill(r0)
	begins(t, l, r0, 4, lock.Free)
}

func TestNil(t *testing.T) {
	for _, l := range []*lock.Locks{nil, {}} {
		for i, f := range []func(api.Ref) api.Errno{l.Add, l.Gone, l.Drop, l.Done, l.Kill} {
			if e := f(r0); e != api.ErrNil {
				t.Error(i, e)
			}
		}
		begins(t, l, r0, 0, lock.Gone)
		if l.Check(r0, 0) || l.Lock(r0, 0) || l.Held() != 0 || l.Taken() != 0 || l.Len() != 0 || l.Copy() != nil {
			t.Error("not nothing")
		}
	}
}
