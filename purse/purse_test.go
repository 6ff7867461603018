package purse_test

import (
	"math"
	"testing"

	"burgage/api"
	"burgage/purse"
)

const top = math.MaxUint64

func limits(keys, bytes uint64) api.Limits { return api.Limits{Keys: keys, Bytes: bytes} }

// is checks the state of a purse.
func is(t *testing.T, p *purse.Purse, has, bound, left api.Limits, open int) {
	t.Helper()
	if p.Has() != has || p.Bound() != bound || p.Left() != left || p.Open() != open {
		t.Error("has", p.Has(), "bound", p.Bound(), "left", p.Left(), "open", p.Open())
	}
}

func reserve(t *testing.T, p *purse.Purse, keys, bytes uint64, want int) {
	t.Helper()
	e := api.OK
	if want == 0 {
		e = api.ErrQuota
	}
	if n, got := p.Reserve(keys, bytes); n != want || got != e {
		t.Error("Reserve", keys, bytes, "is", n, got)
	}
}

func TestExample(t *testing.T) {
	p := purse.New(limits(2, 10))
	is(t, p, limits(0, 0), limits(0, 0), limits(2, 10), 0)
	reserve(t, p, 1, 6, 1)
	reserve(t, p, 1, 5, 0)
	reserve(t, p, 1, 4, 2)
	is(t, p, limits(0, 0), limits(2, 10), limits(0, 0), 2)
	if p.Commit(1) != api.OK || p.Refund(2) != api.OK {
		t.Error("Commit, Refund")
	}
	is(t, p, limits(1, 6), limits(1, 6), limits(1, 4), 0)
	if e := p.Pay(1, 7); e != api.ErrQuota {
		t.Error(e)
	}
	is(t, p, limits(1, 6), limits(1, 6), limits(1, 4), 0)
	if e := p.Pay(1, 2); e != api.OK {
		t.Error(e)
	}
	is(t, p, limits(0, 4), limits(0, 4), limits(2, 6), 0)
}

func TestTickets(t *testing.T) {
	p := purse.New(limits(5, 5))
	reserve(t, p, 0, 0, 1)
	reserve(t, p, 6, 0, 0)
	reserve(t, p, 0, 6, 0)
	reserve(t, p, 5, 5, 2)
	for _, n := range []int{0, -1, 3, math.MinInt, math.MaxInt} {
		if p.Commit(n) != api.ErrNone || p.Refund(n) != api.ErrNone {
			t.Error("ticket", n)
		}
	}
	if p.Commit(1) != api.OK || p.Commit(1) != api.ErrNone || p.Refund(1) != api.ErrNone || p.Refund(2) != api.OK || p.Commit(2) != api.ErrNone {
		t.Error("closed tickets")
	}
	reserve(t, p, 1, 1, 3)
	is(t, p, limits(0, 0), limits(1, 1), limits(4, 4), 1)
}

func TestTakeAndPay(t *testing.T) {
	p := purse.New(limits(3, 3))
	reserve(t, p, 1, 1, 1)
	if p.Take(3, 0) != api.ErrQuota || p.Take(0, 3) != api.ErrQuota || p.Take(2, 1) != api.OK {
		t.Error("Take")
	}
	is(t, p, limits(2, 1), limits(3, 2), limits(0, 1), 1)
	if p.Pay(3, 0) != api.ErrQuota || p.Pay(0, 2) != api.ErrQuota || p.Pay(2, 1) != api.OK {
		t.Error("Pay: a ticket is no balance")
	}
	is(t, p, limits(0, 0), limits(1, 1), limits(2, 2), 1)
}

func TestSumsDoNotWrapRound(t *testing.T) {
	p := purse.New(limits(top, top))
	if p.Take(top, top-1) != api.OK || p.Take(1, 0) != api.ErrQuota || p.Take(0, 2) != api.ErrQuota || p.Take(top, top) != api.ErrQuota {
		t.Error("Take")
	}
	reserve(t, p, 0, top, 0)
	reserve(t, p, 0, 1, 1)
	is(t, p, limits(top, top-1), limits(top, top), limits(0, 0), 1)
	if p.Pay(top, top) != api.ErrQuota || p.Commit(1) != api.OK || p.Pay(top, top) != api.OK {
		t.Error("Pay")
	}
	is(t, p, limits(0, 0), limits(0, 0), limits(top, top), 0)
}

func TestCopyIsIndependent(t *testing.T) {
	p := purse.New(limits(9, 9))
	reserve(t, p, 1, 1, 1)
	c := p.Copy()
	p.Commit(1)
	reserve(t, p, 1, 1, 2)
	is(t, c, limits(0, 0), limits(1, 1), limits(8, 8), 1)
	reserve(t, c, 2, 2, 2)
	if c.Refund(1) != api.OK {
		t.Error("the ticket of the copy")
	}
	is(t, p, limits(1, 1), limits(2, 2), limits(7, 7), 1)
}

func TestNil(t *testing.T) {
	for _, p := range []*purse.Purse{nil, {}} {
		n, e := p.Reserve(top, top)
		if n != 0 || e != api.ErrNil || p.Commit(1) != api.ErrNil || p.Refund(1) != api.ErrNil || p.Pay(1, 1) != api.ErrNil || p.Take(0, 0) != api.ErrNil || p.Copy() != nil {
			t.Error("not nothing", n, e)
		}
		is(t, p, limits(0, 0), limits(0, 0), limits(0, 0), 0)
	}
}
