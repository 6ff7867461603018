package op_test

import (
	"fmt"
	"math"
	"reflect"
	"slices"
	"strings"
	"testing"

	"burgage/api"
	"burgage/code"
	"burgage/op"
	"burgage/put"
	"burgage/tree"
)

var deeds = []api.Deed{api.Get, api.Put, api.Delete, api.Swap, api.Scan}

// gate writes down what it is asked, and refuses from a Reserve on.
type gate struct {
	log    []string
	after  int
	refuse api.Errno
}

func (g *gate) Reserve(d put.Delta) api.Errno {
	g.log = append(g.log, fmt.Sprint("reserve ", d.Keys, " ", d.Bytes))
	if g.after--; g.after < 0 {
		return g.refuse
	}
	return api.OK
}
func (g *gate) Commit() { g.log = append(g.log, "commit") }
func (g *gate) Refund() { g.log = append(g.log, "refund") }

func made(slots int, keys ...string) (*tree.Tree, api.Ref) {
	x, _ := tree.New(slots)
	a, _ := x.Plant()
	for _, k := range keys {
		p, _ := put.New(x, a, k, "v"+k, nil)
		for p.Step() != put.Through {
		}
	}
	return x, a
}

func begun(t *testing.T, x *tree.Tree, a api.Ref, r api.Request, budget int, g put.Gate) *op.Op {
	t.Helper()
	o, e := op.New(x, a, r, budget, g)
	if o == nil || e != api.OK || o.Left() != op.Picks(r, budget) || o.At() != -1 || o.Tries() != 0 || len(o.Holds()) != 0 {
		t.Fatal(o, e)
	}
	return o
}

// ends picks to the end and checks that it is there after as many picks as promised, the pick of the decision, and the answer.
func ends(t *testing.T, o *op.Op, at int, want api.Answer) {
	t.Helper()
	for left := o.Left(); left > 0; left-- {
		if a, is := o.Answer(); is || !reflect.DeepEqual(a, api.Answer{}) || o.Left() != left {
			t.Fatal("an answer before the end", a, o.Left())
		}
		if o.Pick() != (left == 1) {
			t.Fatal("the end with", left, "picks left")
		}
	}
	a, is := o.Answer()
	if !is || a.Err != want.Err || a.Value != want.Value || !slices.Equal(a.Pairs, want.Pairs) || o.At() != at || len(o.Holds()) != 0 {
		t.Error(a, is, "at", o.At(), "not", want, "at", at)
	}
	if !o.Pick() || o.Left() != 0 {
		t.Error("it goes on")
	}
}

func failed(e api.Errno) api.Answer { return api.Answer{Err: e} }

func TestPicks(t *testing.T) {
	for _, d := range deeds {
		for _, budget := range []int{2, 12, 4096} {
			if n := op.Picks(api.Request{Deed: d}, budget); n != budget {
				t.Error(d, budget, n)
			}
		}
		for _, budget := range []int{1, 0, -1, 4097, math.MaxInt, math.MinInt} {
			if n := op.Picks(api.Request{Deed: d}, budget); n != 0 {
				t.Error(d, budget, n)
			}
		}
	}
	for _, d := range []api.Deed{0, -1, api.Tell, api.Create, api.Revoke, 11} {
		if n := op.Picks(api.Request{Deed: d}, 12); n != 0 {
			t.Error(d, n)
		}
	}
	for limit, n := range map[int]int{0: 7, 1: 14, 4096: 7 * 4097, -1: 7, 4097: 7, math.MaxInt: 7, math.MinInt: 7} {
		if got := op.Picks(api.Request{Deed: api.Scan, Limit: limit}, 7); got != n {
			t.Error(limit, got)
		}
		if got := op.Picks(api.Request{Deed: api.Get, Limit: limit}, 7); got != 7 {
			t.Error(limit, got)
		}
	}
}

func TestNew(t *testing.T) {
	x, a := made(9)
	if o, e := op.New(nil, a, api.Request{}, 0, nil); o != nil || e != api.ErrNil {
		t.Error(o, e)
	}
	for _, r := range []api.Request{{}, {Deed: api.Tell}, {Deed: -1}} {
		if o, e := op.New(x, a, r, 12, nil); o != nil || e != api.ErrArg {
			t.Error(o, e)
		}
	}
	if o, e := op.New(x, a, api.Request{Deed: api.Get}, 1, nil); o != nil || e != api.ErrArg {
		t.Error(o, e)
	}
}

func TestExample(t *testing.T) {
	x, a := made(9, "a")
	get := api.Request{Deed: api.Get, Key: "a"}
	ends(t, begun(t, x, a, get, 12, nil), 7, api.Answer{Value: "va"})
	ends(t, begun(t, x, a, get, 5, nil), 4, failed(api.ErrBusy))
	ends(t, begun(t, x, a, get, 8, nil), 7, api.Answer{Value: "va"})
	get.Key = "b"
	ends(t, begun(t, x, a, get, 12, nil), 3, failed(api.ErrNone))
}

func TestEachDeed(t *testing.T) {
	x, a := made(20, "a")
	ends(t, begun(t, x, a, api.Request{Deed: api.Put, Key: "b", Value: "1"}, 12, nil), 5, api.Answer{})
	ends(t, begun(t, x, a, api.Request{Deed: api.Swap, Key: "b", Old: "2", Value: "3"}, 12, nil), 7, failed(api.ErrDiffer))
	ends(t, begun(t, x, a, api.Request{Deed: api.Swap, Key: "c", Old: "2", Value: "3"}, 12, nil), 3, failed(api.ErrNone))
	ends(t, begun(t, x, a, api.Request{Deed: api.Swap, Key: "b", Old: "1", Value: "3"}, 12, nil), 9, api.Answer{})
	ends(t, begun(t, x, a, api.Request{Deed: api.Scan, Limit: 1}, 12, nil), 7, api.Answer{Pairs: []api.Pair{{Key: "a", Value: "va"}}})
	ends(t, begun(t, x, a, api.Request{Deed: api.Scan, Key: "b", Limit: 9}, 12, nil), 16+1, api.Answer{Pairs: []api.Pair{{Key: "b", Value: "3"}}})
	ends(t, begun(t, x, a, api.Request{Deed: api.Delete, Key: "a"}, 12, nil), 10, api.Answer{})
	ends(t, begun(t, x, a, api.Request{Deed: api.Delete, Key: "a"}, 12, nil), 3, failed(api.ErrNone))
	ends(t, begun(t, x, a, api.Request{Deed: api.Scan, Limit: 0}, 12, nil), 0, api.Answer{})
	if x.Held() != 0 {
		t.Error(x.Held())
	}
}

func TestArguments(t *testing.T) {
	x, a := made(9)
	longKey, longValue := strings.Repeat("k", 17), strings.Repeat("v", 33)
	g := &gate{refuse: api.ErrRights}
	for _, d := range deeds {
		for _, r := range []api.Request{{Key: longKey}, {Value: longValue}, {Old: longValue}} {
			r.Deed = d
			ends(t, begun(t, x, a, r, 3, g), 0, failed(api.ErrArg))
		}
	}
	for _, limit := range []int{-1, 4097, math.MinInt} {
		ends(t, begun(t, x, a, api.Request{Deed: api.Scan, Limit: limit}, 3, g), 0, failed(api.ErrArg))
	}
	if len(g.log) != 0 {
		t.Error(g.log)
	}
}

func TestGateAtTheBeginning(t *testing.T) {
	x, a := made(9, "a")
	for _, d := range deeds {
		g := &gate{refuse: api.ErrRights}
		ends(t, begun(t, x, a, api.Request{Deed: d, Key: "a"}, 20, g), 0, failed(api.ErrRights))
		if !slices.Equal(g.log, []string{"reserve 0 0"}) {
			t.Error(g.log)
		}
	}
}

func TestGateAtTheEnd(t *testing.T) {
	x, a := made(9, "a")
	for d, at := range map[api.Deed]int{api.Get: 7, api.Put: 9, api.Delete: 10, api.Swap: 7, api.Scan: 7} {
		g := &gate{refuse: api.ErrRevoked, after: 1}
		ends(t, begun(t, x, a, api.Request{Deed: d, Key: "a", Limit: 1}, 20, g), at, failed(api.ErrRevoked))
		if len(g.log) != 3 || g.log[0] != "reserve 0 0" || g.log[1] != "refund" {
			t.Error(d, g.log)
		}
	}
	g := &gate{}
	ends(t, begun(t, x, a, api.Request{Deed: api.Get, Key: "a"}, 20, g), 7, api.Answer{Value: "va"})
	ends(t, begun(t, x, a, api.Request{Deed: api.Get, Key: "b"}, 20, g), 3, failed(api.ErrNone))
	if want := strings.Repeat("reserve 0 0 refund ", 4); strings.Join(g.log, " ")+" " != want {
		t.Error(g.log)
	}
	g = &gate{refuse: api.ErrRights, after: 1}
	ends(t, begun(t, x, a, api.Request{Deed: api.Get, Key: "b"}, 20, g), 3, failed(api.ErrRights))
}

func TestLost(t *testing.T) {
	x, a := made(9)
	x.Fell(a)
	for _, d := range deeds {
		g := &gate{refuse: api.ErrRights, after: 1}
		ends(t, begun(t, x, a, api.Request{Deed: d, Key: "a", Limit: 1}, 20, g), 1, failed(api.ErrRevoked))
		want := 2
		if d == api.Get || d == api.Scan {
			want = 3
		}
		if len(g.log) != want {
			t.Error(d, g.log)
		}
	}
}

func TestBudgets(t *testing.T) {
	for budget := 2; budget < 9; budget++ {
		x, a := made(9)
		o := begun(t, x, a, api.Request{Deed: api.Put, Key: "a", Value: "x"}, budget, nil)
		// The putter writes with its fifth step and lets go with its sixth: that must be no later than the last pick.
		if budget < 7 {
			ends(t, o, budget-1, failed(api.ErrBusy))
		} else {
			ends(t, o, 5, api.Answer{})
		}
		n := 0
		for range x.All(a) {
			n++
		}
		if n != 0 != (budget >= 7) || x.Held() != 0 {
			t.Error(budget, n, x.Held())
		}
	}
}

func TestNoWritingInTheLastPick(t *testing.T) {
	x, a := made(9, "a", "ab")
	for budget := 2; budget < 17; budget++ {
		ends(t, begun(t, x, a, api.Request{Deed: api.Delete, Key: "ab"}, budget, nil), budget-1, failed(api.ErrBusy))
		if x.Held() != 0 || x.Room() != 9-4 {
			t.Error(budget, x.Held(), x.Room())
		}
	}
	ends(t, begun(t, x, a, api.Request{Deed: api.Delete, Key: "ab"}, 18, nil), 16, api.Answer{})
	if x.Held() != 0 || x.Room() != 9-2 {
		t.Error(x.Held(), x.Room())
	}
}

func TestHoldsAndTries(t *testing.T) {
	x, a := made(9)
	o := begun(t, x, a, api.Request{Deed: api.Put, Key: "a"}, 30, nil)
	for range 4 {
		o.Pick()
	}
	x.Lock(a, 0)
	o.Pick()
	if o.Tries() != 1 || len(o.Holds()) != 0 {
		t.Error(o.Tries(), o.Holds())
	}
	x.Back(a)
	for range 4 {
		o.Pick()
	}
	if !slices.Equal(o.Holds(), []api.Ref{a}) || x.Held() != 1 || o.At() != -1 {
		t.Error(o.Holds(), o.At())
	}
	ends(t, o, 9, api.Answer{})
}

func TestAnswersAreNew(t *testing.T) {
	x, a := made(9, "a")
	o := begun(t, x, a, api.Request{Deed: api.Scan, Limit: 1}, 12, nil)
	for !o.Pick() {
	}
	first, _ := o.Answer()
	first.Pairs[0] = api.Pair{}
	if again, _ := o.Answer(); again.Pairs[0].Key != "a" {
		t.Error(again)
	}
}

func TestEveryAnchorAndKey(t *testing.T) {
	x, a := made(40, "a", "ab", "abc")
	c, _ := code.Encode("abc")
	spot, _ := x.Seek(a, c)
	for _, r := range append(spot.Way, api.Ref{}) {
		for _, d := range deeds {
			o := begun(t, x, r, api.Request{Deed: d, Key: "x", Limit: 3}, 200, nil)
			for !o.Pick() {
			}
			if x.Held() != 0 {
				t.Error(r, d)
			}
		}
	}
}

func TestNil(t *testing.T) {
	for _, o := range []*op.Op{nil, {}} {
		a, is := o.Answer()
		if !o.Pick() || o.At() != -1 || o.Left() != 0 || is || !reflect.DeepEqual(a, api.Answer{}) || o.Holds() != nil || o.Tries() != 0 {
			t.Error("not nothing")
		}
	}
}
