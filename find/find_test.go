package find_test

import (
	"reflect"
	"testing"

	"burgage/api"
	"burgage/code"
	"burgage/find"
	"burgage/tree"
)

func coded(key string) string {
	c, _ := code.Encode(key)
	return c
}

func made(t *testing.T, keys ...string) (*tree.Tree, api.Ref) {
	t.Helper()
	x, _ := tree.New(100)
	a, _ := x.Plant()
	for _, k := range keys {
		put(t, x, a, k)
	}
	return x, a
}

// put puts a key as those do who lock what they change.
func put(t *testing.T, x *tree.Tree, a api.Ref, key string) {
	t.Helper()
	plan, _ := x.Plan(a, coded(key), true)
	change(t, x, plan, func() ([]api.Ref, api.Errno) { return x.Put(a, coded(key), "v"+key) })
}

func drop(t *testing.T, x *tree.Tree, a api.Ref, key string) {
	t.Helper()
	plan, _ := x.Plan(a, coded(key), false)
	change(t, x, plan, func() ([]api.Ref, api.Errno) { return x.Drop(a, coded(key)) })
}

func change(t *testing.T, x *tree.Tree, plan tree.Change, do func() ([]api.Ref, api.Errno)) {
	t.Helper()
	for _, r := range plan.Locks {
		lock(t, x, r)
	}
	dead, e := do()
	if e != api.OK {
		t.Fatal(e)
	}
	for _, r := range dead {
		x.Kill(r)
	}
	for _, r := range plan.Locks {
		x.Done(r)
	}
}

func lock(t *testing.T, x *tree.Tree, r api.Ref) {
	t.Helper()
	if w, _ := x.Begin(r); !x.Lock(r, w) {
		t.Fatal("it cannot be locked", r)
	}
}

func seeker(t *testing.T, x *tree.Tree, a api.Ref, key string) *find.Seeker {
	t.Helper()
	s, e := find.New(x, a, coded(key))
	if s == nil || e != api.OK || s.Place() != find.Begin || s.Tries() != 0 || len(s.Way()) != 0 {
		t.Fatal(s, e)
	}
	return s
}

// goes checks the places of the next steps.
func goes(t *testing.T, s *find.Seeker, places ...find.Place) {
	t.Helper()
	for i, want := range places {
		if got := s.Step(); got != want || s.Place() != want {
			t.Fatal("step", i, "leads to", got)
		}
	}
}

const (
	begin = find.Begin
	look  = find.Look
	check = find.Check
	kid   = find.Kid
	hand  = find.Hand
	found = find.Found
	lost  = find.Lost
)

func value(t *testing.T, s *find.Seeker, want string, err api.Errno, is bool) {
	t.Helper()
	if v, e, ok := s.Value(); v != want || e != err || ok != is {
		t.Error(v, e, ok)
	}
}

func TestNew(t *testing.T) {
	x, a := made(t)
	if s, e := find.New(nil, a, "no code"); s != nil || e != api.ErrNil {
		t.Error(s, e)
	}
	if s, e := find.New(x, a, "no code"); s != nil || e != api.ErrArg {
		t.Error(s, e)
	}
}

func TestExample(t *testing.T) {
	x, a := made(t, "a")
	s := seeker(t, x, a, "a")
	value(t, s, "", api.OK, false)
	if spot, is := s.Spot(); is || !reflect.DeepEqual(spot, tree.Spot{}) {
		t.Error(spot)
	}
	goes(t, s, look, check, kid, hand, look, check, found, found)
	value(t, s, "va", api.OK, true)
	spot, is := s.Spot()
	want, _ := x.Seek(a, coded("a"))
	if !is || !reflect.DeepEqual(spot, want) {
		t.Error(spot, want)
	}
}

func TestSpotsAreThoseOfTheTree(t *testing.T) {
	x, a := made(t, "xyz1", "xyz2", "b", "", "b\x00")
	for _, key := range []string{"a", "", "b", "bc", "xyz3", "xy", "x", "xya", "xyz1", "xyz12", "b\x00", "b\x00\x00"} {
		s := seeker(t, x, a, key)
		steps := 0
		for s.Step() != found {
			steps++
		}
		spot, _ := s.Spot()
		want, _ := x.Seek(a, coded(key))
		if !reflect.DeepEqual(spot, want) || steps >= 4*len(want.Way) {
			t.Errorf("%q: %v, %v, %d", key, spot, want, steps)
		}
		if want.What != tree.Here {
			value(t, s, "", api.ErrNone, true)
		} else {
			value(t, s, "v"+key, api.OK, true)
		}
	}
}

func TestWay(t *testing.T) {
	x, a := made(t, "a", "ab")
	s := seeker(t, x, a, "ab")
	goes(t, s, look)
	if w := s.Way(); len(w) != 1 || w[0].Ref != a || !x.Check(a, w[0].Word) || !reflect.DeepEqual(w[0].Node, api.Node{}) {
		t.Error(w)
	}
	goes(t, s, check)
	n, _ := x.Node(a)
	if w := s.Way(); len(w) != 1 || !reflect.DeepEqual(w[0].Node, n) {
		t.Error(w)
	}
	goes(t, s, kid, hand)
	if w := s.Way(); len(w) != 1 {
		t.Error(w)
	}
	goes(t, s, look, check)
	w := s.Way()
	if len(w) != 2 || w[1].Ref != n.Kids[0] || len(w[1].Node.Kids) != 2 {
		t.Error(w)
	}
	w[1].Node.Kids[0], w[1].Node.Kids[1] = a, a
	w[1].Node.Bytes[1] = 'z'
	goes(t, s, kid, hand, look, check, found)
	value(t, s, "vab", api.OK, true)
}

func TestHeld(t *testing.T) {
	x, a := made(t, "a")
	s := seeker(t, x, a, "a")
	lock(t, x, a)
	goes(t, s, begin, begin)
	x.Back(a)
	goes(t, s, look, check, kid)
	n, _ := x.Node(a)
	lock(t, x, n.Kids[0])
	goes(t, s, kid, kid, kid)
	x.Back(n.Kids[0])
	goes(t, s, hand, look, check, found)
	if s.Tries() != 0 {
		t.Error(s.Tries())
	}
}

func TestLost(t *testing.T) {
	x, a := made(t, "a")
	s := seeker(t, x, a, "a")
	goes(t, s, look, check, kid)
	x.Fell(a)
	goes(t, s, begin)
	if s.Tries() != 1 || len(s.Way()) != 0 {
		t.Error(s.Tries(), s.Way())
	}
	goes(t, s, lost, lost)
	value(t, s, "", api.ErrRevoked, true)
	if _, is := s.Spot(); is || len(s.Way()) != 0 {
		t.Error("a spot")
	}
	goes(t, seeker(t, x, api.Ref{}, "a"), lost)
	goes(t, seeker(t, new(tree.Tree), a, "a"), lost)
}

func TestStartingOver(t *testing.T) {
	for i, c := range []struct {
		before []find.Place
		change func(*testing.T, *tree.Tree, api.Ref)
		after  []find.Place
		tries  int
	}{
		{[]find.Place{look}, func(_ *testing.T, x *tree.Tree, a api.Ref) { x.Fell(a) }, []find.Place{begin, lost}, 1},
		{[]find.Place{look, check}, func(t *testing.T, x *tree.Tree, a api.Ref) { put(t, x, a, "b") }, []find.Place{begin, look}, 1},
		{[]find.Place{look, check}, func(t *testing.T, x *tree.Tree, a api.Ref) { lock(t, x, a) }, []find.Place{begin, begin}, 1},
		{[]find.Place{look, check, kid}, func(t *testing.T, x *tree.Tree, a api.Ref) { drop(t, x, a, "a") }, []find.Place{begin, look, check, found}, 1},
		{[]find.Place{look, check, kid}, func(t *testing.T, x *tree.Tree, a api.Ref) { put(t, x, a, "b") }, []find.Place{hand, begin, look}, 1},
		{[]find.Place{look, check, kid, hand}, func(t *testing.T, x *tree.Tree, a api.Ref) { drop(t, x, a, "a") }, []find.Place{begin, look}, 1},
		{[]find.Place{look, check, kid, hand, look}, func(t *testing.T, x *tree.Tree, a api.Ref) { drop(t, x, a, "a") }, []find.Place{begin, look}, 1},
		{[]find.Place{look, check, kid, hand, look, check}, func(t *testing.T, x *tree.Tree, a api.Ref) { put(t, x, a, "a") }, []find.Place{begin, look}, 1},
		{[]find.Place{look, check, kid, hand, look, check}, func(t *testing.T, x *tree.Tree, a api.Ref) { put(t, x, a, "b") }, []find.Place{found, found}, 0},
	} {
		x, a := made(t, "a")
		s := seeker(t, x, a, "a")
		goes(t, s, c.before...)
		c.change(t, x, a)
		goes(t, s, c.after...)
		if s.Tries() != c.tries {
			t.Error(i, s.Tries())
		}
	}
}

func TestAgain(t *testing.T) {
	x, a := made(t, "a")
	s := seeker(t, x, a, "a")
	goes(t, s, look, check, kid, hand, look, check, found)
	s.Again()
	if s.Place() != begin || s.Tries() != 1 || len(s.Way()) != 0 {
		t.Error(s.Place(), s.Tries(), s.Way())
	}
	value(t, s, "", api.OK, false)
	x.Fell(a)
	goes(t, s, lost)
	s.Again()
	if s.Place() != begin || s.Tries() != 2 {
		t.Error(s.Place(), s.Tries())
	}
}

func TestAnyRefMayBeTheAnchor(t *testing.T) {
	x, a := made(t, "a", "ab")
	spot, _ := x.Seek(a, coded("ab"))
	for _, r := range spot.Way {
		for _, key := range []string{"", "a", "ab", "b", "x"} {
			s := seeker(t, x, r, key)
			for range 30 {
				s.Step()
			}
			if s.Place() != found {
				t.Error(r, key, s.Place())
			}
		}
	}
}

func TestNil(t *testing.T) {
	for _, s := range []*find.Seeker{nil, {}} {
		s.Again()
		if s.Step() != lost || s.Place() != lost || s.Way() != nil || s.Tries() != 0 {
			t.Error("not nothing")
		}
		value(t, s, "", api.OK, false)
		if spot, is := s.Spot(); is || !reflect.DeepEqual(spot, tree.Spot{}) {
			t.Error(spot)
		}
	}
}
