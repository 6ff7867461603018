package drop_test

import (
	"fmt"
	"math/rand"
	"reflect"
	"slices"
	"strings"
	"testing"

	"burgage/api"
	"burgage/art"
	"burgage/code"
	"burgage/drop"
	"burgage/put"
	"burgage/tree"
)

const (
	seek    = drop.Seek
	lock    = drop.Lock
	write   = drop.Write
	letgo   = drop.Letgo
	through = drop.Through
	left    = drop.Left
)

func coded(key string) string {
	c, _ := code.Encode(key)
	return c
}

// gate writes down what it is asked, and refuses what refuse says.
type gate struct {
	log    []string
	refuse api.Errno
}

func (g *gate) Reserve(d put.Delta) api.Errno {
	g.log = append(g.log, fmt.Sprint("reserve ", d.Keys, " ", d.Bytes))
	return g.refuse
}
func (g *gate) Commit() { g.log = append(g.log, "commit") }
func (g *gate) Refund() { g.log = append(g.log, "refund") }

func made(t *testing.T, keys ...string) (*tree.Tree, api.Ref) {
	t.Helper()
	x, _ := tree.New(400)
	a, _ := x.Plant()
	for _, k := range keys {
		p, _ := put.New(x, a, k, "v"+k, nil)
		for p.Step() != put.Through {
		}
	}
	return x, a
}

func dropper(t *testing.T, x *tree.Tree, a api.Ref, key string, g put.Gate) *drop.Dropper {
	t.Helper()
	d, e := drop.New(x, a, key, g)
	if d == nil || e != api.OK || d.Place() != seek || d.Tries() != 0 || len(d.Holds()) != 0 {
		t.Fatal(d, e)
	}
	return d
}

// does steps until the dropper is through, and checks what it decided.
func does(t *testing.T, d *drop.Dropper, want api.Errno) {
	t.Helper()
	for range 1000 {
		if d.Step() == through {
			break
		}
	}
	if e, is := d.Result(); e != want || !is || d.Place() != through || len(d.Holds()) != 0 {
		t.Fatal(e, is, d.Place(), d.Holds())
	}
}

func goes(t *testing.T, d *drop.Dropper, places ...drop.Place) {
	t.Helper()
	for i, want := range places {
		if got := d.Step(); got != want || d.Place() != want {
			t.Fatal("step", i, "leads to", got)
		}
	}
}

// to steps until the dropper is at a place.
func to(t *testing.T, d *drop.Dropper, place drop.Place) {
	t.Helper()
	for range 1000 {
		if d.Place() == place {
			return
		}
		d.Step()
	}
	t.Fatal("it does not come to", place)
}

func below(x *tree.Tree, r api.Ref) []api.Node {
	var l []api.Node
	n, _ := x.Node(r)
	for _, kid := range n.Kids {
		k, _ := x.Node(kid)
		k.Kids = nil
		l = append(append(l, k), below(x, kid)...)
	}
	return l
}

// has checks that the tree below an anchor is the one that its keys ask for, nothing is locked, and no place is lost.
func has(t *testing.T, x *tree.Tree, a api.Ref, keys ...string) {
	t.Helper()
	m := art.New()
	for _, k := range keys {
		m.Put(coded(k), "v"+k)
	}
	got, want := below(x, a), m.Below()
	if len(got) != len(want) || len(got) > 0 && !reflect.DeepEqual(got, want) || x.Held() != 0 || x.Room() != 399-len(want) {
		t.Errorf("%v\nis not %v, held %d, room %d", got, want, x.Held(), x.Room())
	}
}

func same(t *testing.T, got []string, want ...string) {
	t.Helper()
	if !slices.Equal(got, want) {
		t.Errorf("%q", got)
	}
}

func TestNew(t *testing.T) {
	x, a := made(t)
	long := strings.Repeat("k", 17)
	if d, e := drop.New(nil, a, long, nil); d != nil || e != api.ErrNil {
		t.Error(d, e)
	}
	if d, e := drop.New(x, a, long, nil); d != nil || e != api.ErrArg {
		t.Error(d, e)
	}
	dropper(t, x, a, long[:16], nil)
}

func TestExample(t *testing.T) {
	x, a := made(t, "a", "ab")
	plan, _ := x.Plan(a, coded("ab"), false)
	d := dropper(t, x, a, "ab", nil)
	goes(t, d, seek, seek, seek, seek, seek, seek, seek, seek, seek, seek, left, lock, lock, lock, write)
	if !slices.Equal(d.Holds(), plan.Locks) || len(plan.Locks) != 3 {
		t.Error(d.Holds(), plan.Locks)
	}
	if e, is := d.Result(); e != api.OK || is {
		t.Error(e, is)
	}
	goes(t, d, letgo, through, through)
	does(t, d, api.OK)
	has(t, x, a, "a")
}

func TestNothingThere(t *testing.T) {
	x, a := made(t, "a", "ab")
	d := dropper(t, x, a, "b", nil)
	goes(t, d, seek, seek, through)
	does(t, d, api.ErrNone)
	for _, key := range []string{"", "abc", "ac"} {
		does(t, dropper(t, x, a, key, nil), api.ErrNone)
	}
	has(t, x, a, "a", "ab")
}

func TestWhatIsLocked(t *testing.T) {
	for i, c := range []struct {
		keys  []string
		key   string
		locks int
		looks bool // at the kid that is left
	}{
		{[]string{"a"}, "a", 2, false},
		{[]string{"a", "b"}, "a", 2, false},
		{[]string{"xa", "xb", "xc"}, "xa", 2, false},
		{[]string{"xa", "xb"}, "xa", 3, true},
		{[]string{"xa", "xb1", "xb2"}, "xa", 4, true},
		{[]string{"xa", "xb1", "xb2"}, "xb1", 3, true},
		{[]string{"xa", "xb", "xc", "xd", "xe"}, "xc", 2, false},
	} {
		x, a := made(t, c.keys...)
		plan, _ := x.Plan(a, coded(c.key), false)
		d := dropper(t, x, a, c.key, nil)
		looks := false
		for d.Place() != write {
			looks = looks || d.Place() == left
			d.Step()
		}
		if !slices.Equal(d.Holds(), plan.Locks) || len(plan.Locks) != c.locks || looks != c.looks {
			t.Error(i, d.Holds(), plan.Locks, looks)
		}
		does(t, d, api.OK)
		has(t, x, a, slices.DeleteFunc(c.keys, func(k string) bool { return k == c.key })...)
	}
}

func TestTheKidThatIsLeft(t *testing.T) {
	x, a := made(t, "xa", "xb1", "xb2")
	spot, _ := x.Seek(a, coded("xb1"))
	kid := spot.Way[2]
	d := dropper(t, x, a, "xa", nil)
	to(t, d, left)
	w, _ := x.Begin(kid)
	x.Lock(kid, w)
	goes(t, d, left, left)
	x.Done(kid)
	goes(t, d, lock, lock, lock, lock)
	w, _ = x.Begin(kid)
	x.Lock(kid, w)
	goes(t, d, seek)
	if d.Tries() != 1 || len(d.Holds()) != 0 || x.Held() != 1 {
		t.Error(d.Tries(), d.Holds(), x.Held())
	}
	x.Back(kid)
	does(t, d, api.OK)
	has(t, x, a, "xb1", "xb2")
}

func TestTheKidThatIsLeftIsGone(t *testing.T) {
	x, a := made(t, "xa", "xb")
	d := dropper(t, x, a, "xa", nil)
	to(t, d, left)
	does(t, dropper(t, x, a, "xb", nil), api.OK)
	goes(t, d, seek)
	if d.Tries() != 1 {
		t.Error(d.Tries())
	}
	does(t, d, api.OK)
	has(t, x, a)
}

func TestLockedBySomebodyElse(t *testing.T) {
	x, a := made(t, "a")
	d := dropper(t, x, a, "a", nil)
	to(t, d, lock)
	w, _ := x.Begin(a)
	x.Lock(a, w)
	goes(t, d, seek, seek, seek)
	x.Back(a)
	does(t, d, api.OK)
	has(t, x, a)
}

func TestGate(t *testing.T) {
	x, a := made(t, "ab")
	g := &gate{refuse: api.ErrRights}
	does(t, dropper(t, x, a, "no", g), api.ErrRights)
	does(t, dropper(t, x, a, "ab", g), api.ErrRights)
	has(t, x, a, "ab")
	g.refuse = api.OK
	does(t, dropper(t, x, a, "no", g), api.ErrNone)
	does(t, dropper(t, x, a, "ab", g), api.OK)
	same(t, g.log, "reserve 0 0", "reserve -1 -5", "reserve 0 0", "refund", "reserve -1 -5", "commit")
	has(t, x, a)
}

func TestRevoked(t *testing.T) {
	x, a := made(t, "a")
	g := &gate{}
	d := dropper(t, x, a, "a", g)
	to(t, d, write)
	x.Fell(a)
	goes(t, d, letgo, through)
	does(t, d, api.ErrRevoked)
	d = dropper(t, x, a, "a", g)
	goes(t, d, through)
	does(t, d, api.ErrRevoked)
	same(t, g.log)
	if x.Room() != 400 {
		t.Error(x.Room())
	}
}

func TestQuit(t *testing.T) {
	for steps := range 19 {
		x, a := made(t, "a", "ab")
		d := dropper(t, x, a, "ab", nil)
		for range steps {
			d.Step()
		}
		d.Quit()
		if steps < 16 {
			does(t, d, api.ErrBusy)
			has(t, x, a, "a", "ab")
		} else {
			does(t, d, api.OK)
			has(t, x, a, "a")
		}
	}
}

// stepper is a putter or a dropper.
type stepper func() (api.Errno, bool)

func TestManyAtOnce(t *testing.T) {
	r := rand.New(rand.NewSource(1))
	for range 300 {
		x, a := made(t, "a", "ab", "abc", "b", "ba", "bb", "bc", "bd")
		keys := map[string]bool{"a": true, "ab": true, "abc": true, "b": true, "ba": true, "bb": true, "bc": true, "bd": true}
		var l []stepper
		for range 10 {
			var key string
			for range r.Intn(4) {
				key += string(rune('a' + r.Intn(5)))
			}
			// When it decides OK, that is what is there at that moment.
			if r.Intn(2) == 0 {
				p, _ := put.New(x, a, key, "v"+key, nil)
				l = append(l, func() (api.Errno, bool) {
					was := p.Place()
					if p.Step(); was == put.Write {
						keys[key] = true
					}
					return p.Result()
				})
				continue
			}
			d, _ := drop.New(x, a, key, nil)
			l = append(l, func() (api.Errno, bool) {
				was, _ := d.Place(), d.Step()
				e, is := d.Result()
				switch {
				case was == write && !keys[key], is && was == seek && e == api.ErrNone && keys[key]:
					t.Fatal("it was decided otherwise", key, e)
				case was == write:
					delete(keys, key)
				}
				return e, is
			})
		}
		for range 10000 {
			l[r.Intn(len(l))]()
		}
		var want []string
		for k := range keys {
			want = append(want, k)
		}
		for _, s := range l {
			if _, is := s(); !is {
				t.Error("not decided")
			}
		}
		has(t, x, a, want...)
	}
}

func TestAnyRefMayBeTheAnchor(t *testing.T) {
	x, a := made(t, "a", "ab", "abc")
	spot, _ := x.Seek(a, coded("abc"))
	for _, r := range append(spot.Way[1:], api.Ref{}) {
		for _, key := range []string{"", "a", "ab", "abc", "x"} {
			d := dropper(t, x, r, key, nil)
			for range 50 {
				d.Step()
			}
			if e, is := d.Result(); e == api.OK || !is {
				t.Error(r, key, e, is)
			}
		}
	}
	has(t, x, a, "a", "ab", "abc")
}

func TestNil(t *testing.T) {
	for _, d := range []*drop.Dropper{nil, {}} {
		d.Quit()
		if e, is := d.Result(); e != api.OK || is || d.Step() != through || d.Place() != through || d.Holds() != nil || d.Tries() != 0 {
			t.Error("not nothing", e, is)
		}
	}
}
