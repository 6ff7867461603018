package put_test

import (
	"fmt"
	"math/rand"
	"slices"
	"strings"
	"testing"

	"burgage/api"
	"burgage/code"
	"burgage/put"
	"burgage/tree"
)

const (
	seek    = put.Seek
	lock    = put.Lock
	write   = put.Write
	letgo   = put.Letgo
	through = put.Through
)

func coded(key string) string {
	c, _ := code.Encode(key)
	return c
}

// gate writes down what it is asked, and refuses what refuse says.
type gate struct {
	log    []string
	refuse api.Errno
}

func (g *gate) Reserve(d put.Delta) api.Errno {
	g.log = append(g.log, fmt.Sprint("reserve ", d.Keys, " ", d.Bytes))
	return g.refuse
}
func (g *gate) Commit() { g.log = append(g.log, "commit") }
func (g *gate) Refund() { g.log = append(g.log, "refund") }

func made(t *testing.T, slots int, keys ...string) (*tree.Tree, api.Ref) {
	t.Helper()
	x, _ := tree.New(slots)
	a, _ := x.Plant()
	for _, k := range keys {
		does(t, putter(t, x, a, k, "v"+k, nil), api.OK)
	}
	return x, a
}

func putter(t *testing.T, x *tree.Tree, a api.Ref, key, value string, g put.Gate) *put.Putter {
	t.Helper()
	p, e := put.New(x, a, key, value, g)
	if p == nil || e != api.OK || p.Place() != seek || p.Tries() != 0 || len(p.Holds()) != 0 {
		t.Fatal(p, e)
	}
	return p
}

func swapper(t *testing.T, x *tree.Tree, a api.Ref, key, old, value string, g put.Gate) *put.Putter {
	t.Helper()
	p, e := put.Swap(x, a, key, old, value, g)
	if p == nil || e != api.OK {
		t.Fatal(p, e)
	}
	return p
}

// does steps until the putter is through, and checks what it decided.
func does(t *testing.T, p *put.Putter, want api.Errno) {
	t.Helper()
	for range 1000 {
		if p.Step() == through {
			break
		}
	}
	if e, is := p.Result(); e != want || !is || p.Place() != through || len(p.Holds()) != 0 {
		t.Fatal(e, is, p.Place(), p.Holds())
	}
}

func goes(t *testing.T, p *put.Putter, places ...put.Place) {
	t.Helper()
	for i, want := range places {
		if got := p.Step(); got != want || p.Place() != want {
			t.Fatal("step", i, "leads to", got)
		}
	}
}

// has checks what is below an anchor, and that nothing is locked.
func has(t *testing.T, x *tree.Tree, a api.Ref, pairs ...string) {
	t.Helper()
	var l []string
	for c, v := range x.All(a) {
		k, _ := code.Decode(c)
		l = append(l, k+"="+v)
	}
	if !slices.Equal(l, pairs) || x.Held() != 0 {
		t.Errorf("%q, held %d", l, x.Held())
	}
}

func same(t *testing.T, got []string, want ...string) {
	t.Helper()
	if !slices.Equal(got, want) {
		t.Errorf("%q", got)
	}
}

func TestNew(t *testing.T) {
	x, a := made(t, 10)
	longKey, longValue := strings.Repeat("k", 17), strings.Repeat("v", 33)
	if p, e := put.New(nil, a, longKey, "", nil); p != nil || e != api.ErrNil {
		t.Error(p, e)
	}
	if p, e := put.Swap(nil, a, longKey, "", "", nil); p != nil || e != api.ErrNil {
		t.Error(p, e)
	}
	for _, l := range [][3]string{{longKey, "", ""}, {"", longValue, ""}, {"", "", longValue}} {
		if p, e := put.Swap(x, a, l[0], l[1], l[2], nil); p != nil || e != api.ErrArg {
			t.Error(p, e)
		}
		if p, e := put.New(x, a, l[0], l[1]+l[2], nil); p != nil || e != api.ErrArg {
			t.Error(p, e)
		}
	}
	putter(t, x, a, longKey[:16], longValue[:32], nil)
}

func TestExample(t *testing.T) {
	x, a := made(t, 10)
	p := putter(t, x, a, "a", "x", nil)
	goes(t, p, seek, seek, lock)
	has(t, x, a)
	goes(t, p, write)
	if !slices.Equal(p.Holds(), []api.Ref{a}) || x.Held() != 1 {
		t.Error(p.Holds())
	}
	if e, is := p.Result(); e != api.OK || is {
		t.Error(e, is)
	}
	goes(t, p, letgo)
	if e, is := p.Result(); e != api.OK || !is || !x.Check(a, 1) {
		t.Error(e, is)
	}
	goes(t, p, through, through)
	has(t, x, a, "a=x")
	if !x.Check(a, 4) {
		t.Error("the version is not one more")
	}
}

func TestLockedBySomebodyElse(t *testing.T) {
	x, a := made(t, 10)
	p := putter(t, x, a, "a", "x", nil)
	goes(t, p, seek, seek, lock)
	x.Lock(a, 0)
	goes(t, p, seek)
	if p.Tries() != 1 {
		t.Error(p.Tries())
	}
	goes(t, p, seek, seek)
	x.Done(a)
	goes(t, p, seek, seek, lock, write, letgo, through)
	has(t, x, a, "a=x")
}

func TestEverythingGoesBack(t *testing.T) {
	x, a := made(t, 20, "xa", "xb", "xc", "xd")
	spot, _ := x.Seek(a, coded("xe"))
	p := putter(t, x, a, "xe", "v", nil)
	for p.Place() == seek {
		p.Step()
	}
	goes(t, p, lock)
	if !slices.Equal(p.Holds(), []api.Ref{a}) {
		t.Error(p.Holds())
	}
	w, _ := x.Begin(a)
	n, _ := x.Begin(spot.Way[1])
	x.Lock(spot.Way[1], n)
	goes(t, p, seek)
	if len(p.Holds()) != 0 || !x.Check(a, w-1) || x.Held() != 1 {
		t.Error("the anchor's word is not what it was", p.Holds())
	}
	x.Back(spot.Way[1])
	room := x.Room()
	does(t, p, api.OK)
	has(t, x, a, "xa=vxa", "xb=vxb", "xc=vxc", "xd=vxd", "xe=v")
	if x.Room() != room-1 {
		t.Error("the node that died was not killed", room, x.Room())
	}
}

func TestWhatIsLocked(t *testing.T) {
	for i, c := range []struct {
		keys []string
		key  string
		up   int // how many nodes above the last one
	}{
		{[]string{"a"}, "a", 0},
		{[]string{"a"}, "b", 0},
		{[]string{"xa", "xb"}, "xc", 0},
		{[]string{"xa", "xb", "xc", "xd"}, "xe", 1},
		{[]string{"xya", "xyb"}, "xz", 1},
		{[]string{"a"}, "ab", 1},
	} {
		x, a := made(t, 40, c.keys...)
		spot, _ := x.Seek(a, coded(c.key))
		plan, _ := x.Plan(a, coded(c.key), true)
		p := putter(t, x, a, c.key, "new", nil)
		for p.Step() != write {
		}
		if !slices.Equal(p.Holds(), plan.Locks) || len(plan.Locks) != c.up+1 || plan.Locks[0] != spot.Way[len(spot.Way)-1-c.up] {
			t.Error(i, p.Holds(), plan.Locks)
		}
		p.Holds()[0] = api.Ref{}
		does(t, p, api.OK)
		if s, _ := x.Seek(a, coded(c.key)); s.What != tree.Here || x.Held() != 0 {
			t.Error(i, s)
		}
	}
}

func TestSwap(t *testing.T) {
	x, a := made(t, 10, "a")
	does(t, swapper(t, x, a, "b", "", "new", nil), api.ErrNone)
	does(t, swapper(t, x, a, "ab", "", "new", nil), api.ErrNone)
	does(t, swapper(t, x, a, "a", "v", "new", nil), api.ErrDiffer)
	has(t, x, a, "a=va")
	does(t, swapper(t, x, a, "a", "va", "new", nil), api.OK)
	has(t, x, a, "a=new")
	p := swapper(t, x, a, "b", "", "new", nil)
	goes(t, p, seek, seek, through)
	p = swapper(t, x, a, "a", "new", "other", nil)
	for p.Step() != lock {
	}
	does(t, putter(t, x, a, "a", "between", nil), api.OK)
	does(t, p, api.ErrDiffer)
	if p.Tries() != 1 {
		t.Error(p.Tries())
	}
}

func TestGate(t *testing.T) {
	x, a := made(t, 4)
	g := &gate{}
	does(t, putter(t, x, a, "ab", "123", g), api.OK)
	does(t, putter(t, x, a, "ab", "1", g), api.OK)
	does(t, swapper(t, x, a, "ab", "1", "12345", g), api.OK)
	does(t, swapper(t, x, a, "ab", "1", "", g), api.ErrDiffer)
	does(t, swapper(t, x, a, "no", "1", "", g), api.ErrNone)
	same(t, g.log, "reserve 1 5", "commit", "reserve 0 -2", "commit", "reserve 0 4", "commit", "reserve 0 0", "refund", "reserve 0 0", "refund")
	g = &gate{refuse: api.ErrQuota}
	does(t, putter(t, x, a, "b", "", g), api.ErrQuota)
	does(t, putter(t, x, a, "ab", "", g), api.ErrQuota)
	g.refuse = api.ErrRights
	does(t, swapper(t, x, a, "ab", "1", "", g), api.ErrRights)
	does(t, swapper(t, x, a, "no", "1", "", g), api.ErrRights)
	same(t, g.log, "reserve 1 1", "reserve 0 -5", "reserve 0 0", "reserve 0 0")
	has(t, x, a, "ab=12345")
	g = &gate{}
	does(t, putter(t, x, a, "abc", "", g), api.OK)
	does(t, putter(t, x, a, "c", "", g), api.ErrFull)
	same(t, g.log[2:], "reserve 1 1", "refund")
	has(t, x, a, "ab=12345", "abc=")
}

func TestRevoked(t *testing.T) {
	x, a := made(t, 10)
	g := &gate{}
	p := putter(t, x, a, "a", "x", g)
	goes(t, p, seek, seek, lock, write)
	x.Fell(a)
	goes(t, p, letgo)
	if e, is := p.Result(); e != api.ErrRevoked || !is || !slices.Equal(p.Holds(), []api.Ref{a}) {
		t.Error(e, is, p.Holds())
	}
	goes(t, p, through)
	does(t, p, api.ErrRevoked)
	p = putter(t, x, a, "a", "x", g)
	goes(t, p, through)
	does(t, p, api.ErrRevoked)
	same(t, g.log)
	if x.Room() != 10 {
		t.Error(x.Room())
	}
}

func TestQuit(t *testing.T) {
	for steps := range 7 {
		x, a := made(t, 10)
		p := putter(t, x, a, "a", "x", nil)
		for range steps {
			p.Step()
		}
		p.Quit()
		if steps < 5 {
			does(t, p, api.ErrBusy)
			has(t, x, a)
		} else {
			does(t, p, api.OK)
			has(t, x, a, "a=x")
		}
		p.Quit()
		if e, is := p.Result(); e == api.OK != (steps >= 5) || !is {
			t.Error(steps, e, is)
		}
	}
}

func TestQuitLetsGoOfWhatDied(t *testing.T) {
	x, a := made(t, 20, "xa", "xb", "xc", "xd")
	room := x.Room()
	p := putter(t, x, a, "xe", "v", nil)
	for p.Step() != letgo {
	}
	p.Quit()
	does(t, p, api.OK)
	if x.Room() != room-1 || x.Held() != 0 {
		t.Error(room, x.Room(), x.Held())
	}
}

func TestManyAtOnce(t *testing.T) {
	r := rand.New(rand.NewSource(1))
	for range 200 {
		x, a := made(t, 200)
		want := map[string]bool{}
		var l []*put.Putter
		for range 12 {
			var key string
			for range r.Intn(4) {
				key += string(rune('a' + r.Intn(3)))
			}
			want[key] = true
			l = append(l, putter(t, x, a, key, "v"+key, nil))
		}
		for range 20000 {
			l[r.Intn(len(l))].Step()
		}
		var pairs []string
		for k := range want {
			pairs = append(pairs, k+"=v"+k)
		}
		slices.SortFunc(pairs, func(a, b string) int { return strings.Compare(a[:strings.Index(a, "=")], b[:strings.Index(b, "=")]) })
		for _, p := range l {
			does(t, p, api.OK)
		}
		has(t, x, a, pairs...)
		nodes, _ := x.Fell(a)
		if x.Room() != 200 || nodes == 0 {
			t.Fatal("a place was lost", x.Room())
		}
	}
}

func TestAnyRefMayBeTheAnchor(t *testing.T) {
	x, a := made(t, 40, "a", "ab", "abc")
	spot, _ := x.Seek(a, coded("abc"))
	for _, r := range append(spot.Way[1:], api.Ref{}) {
		for _, key := range []string{"", "a", "abc", "x"} {
			p := putter(t, x, r, key, "new", nil)
			for range 50 {
				p.Step()
			}
			if e, is := p.Result(); e == api.OK || !is {
				t.Error(r, key, e, is)
			}
		}
	}
	has(t, x, a, "a=va", "ab=vab", "abc=vabc")
}

func TestNil(t *testing.T) {
	for _, p := range []*put.Putter{nil, {}} {
		p.Quit()
		if e, is := p.Result(); e != api.OK || is || p.Step() != through || p.Place() != through || p.Holds() != nil || p.Tries() != 0 {
			t.Error("not nothing", e, is)
		}
	}
}
