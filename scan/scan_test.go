package scan_test

import (
	"fmt"
	"math"
	"math/rand"
	"slices"
	"strings"
	"testing"

	"burgage/api"
	"burgage/code"
	"burgage/drop"
	"burgage/put"
	"burgage/scan"
	"burgage/tree"
)

const (
	begin   = scan.Begin
	look    = scan.Look
	check   = scan.Check
	kid     = scan.Kid
	hand    = scan.Hand
	through = scan.Through
	lost    = scan.Lost
)

func coded(key string) string {
	c, _ := code.Encode(key)
	return c
}

func set(x *tree.Tree, a api.Ref, key, value string) {
	p, _ := put.New(x, a, key, value, nil)
	for p.Step() != put.Through {
	}
}

func remove(x *tree.Tree, a api.Ref, key string) {
	d, _ := drop.New(x, a, key, nil)
	for d.Step() != drop.Through {
	}
}

func made(keys ...string) (*tree.Tree, api.Ref) {
	x, _ := tree.New(1000)
	a, _ := x.Plant()
	for _, k := range keys {
		set(x, a, k, "v"+k)
	}
	return x, a
}

func scanner(t *testing.T, x *tree.Tree, a api.Ref, from string, limit int) *scan.Scanner {
	t.Helper()
	s, e := scan.New(x, a, from, limit)
	if s == nil || e != api.OK || s.Tries() != 0 || s.Rounds() != 0 || len(s.Pairs()) != 0 || s.Bound() != coded(from) {
		t.Fatal(s, e)
	}
	return s
}

func goes(t *testing.T, s *scan.Scanner, places ...scan.Place) {
	t.Helper()
	for i, want := range places {
		if got := s.Step(); got != want || s.Place() != want {
			t.Fatal("step", i, "leads to", got)
		}
	}
}

// finds steps to the end and checks the keys.
func finds(t *testing.T, s *scan.Scanner, keys ...string) {
	t.Helper()
	for range 100000 {
		if s.Step() == through {
			break
		}
	}
	var got []string
	for _, p := range s.Pairs() {
		got = append(got, p.Key)
		if p.Value != "v"+p.Key {
			t.Error(p)
		}
	}
	if s.Place() != through || !slices.Equal(got, keys) {
		t.Errorf("%q at %d", got, s.Place())
	}
}

func TestNew(t *testing.T) {
	x, a := made()
	long := strings.Repeat("k", 17)
	if s, e := scan.New(nil, a, long, -1); s != nil || e != api.ErrNil {
		t.Error(s, e)
	}
	for _, c := range []struct {
		from  string
		limit int
	}{{long, 1}, {"", -1}, {"", 4097}, {"", math.MinInt}, {"", math.MaxInt}} {
		if s, e := scan.New(x, a, c.from, c.limit); s != nil || e != api.ErrArg {
			t.Error(s, e)
		}
	}
	if s := scanner(t, x, a, long[:16], 4096); s.Place() != begin {
		t.Error(s.Place())
	}
	s := scanner(t, x, a, "", 0)
	goes(t, s, through, through)
	if s.Rounds() != 0 {
		t.Error(s.Rounds())
	}
}

func TestExample(t *testing.T) {
	x, a := made("a", "b", "c")
	s := scanner(t, x, a, "b", 5)
	down := []scan.Place{look, check, kid, hand, look, check, begin}
	for i, bound := range []string{coded("b") + "\x00", "c", coded("c") + "\x00", "d"} {
		goes(t, s, down...)
		if s.Bound() != bound || s.Rounds() != i+1 {
			t.Errorf("round %d, bound %q", s.Rounds(), s.Bound())
		}
	}
	goes(t, s, look, check, through, through)
	if s.Rounds() != 5 || s.Tries() != 0 {
		t.Error(s.Rounds(), s.Tries())
	}
	finds(t, s, "b", "c")
}

func TestLimit(t *testing.T) {
	x, a := made("a", "b", "c")
	s := scanner(t, x, a, "", 2)
	goes(t, s, look, check, kid, hand, look, check, begin)
	if l := s.Pairs(); len(l) != 1 || l[0] != (api.Pair{Key: "a", Value: "va"}) {
		t.Error(l)
	}
	for range 13 {
		s.Step()
	}
	goes(t, s, through)
	finds(t, s, "a", "b")
	if s.Bound() != coded("b")+"\x00" || s.Rounds() != 3 {
		t.Errorf("%q %d", s.Bound(), s.Rounds())
	}
}

func TestRanges(t *testing.T) {
	keys := []string{"", "\x00", "\x00\x00", "a", "a\x00", "ab", "abc", "abd", "b", "xyz1", "xyz2", "\xff", "\xff\xff", "\xff\xff\xff"}
	x, a := made(keys...)
	for _, from := range append(keys, "\x01", "aa", "abca", "ac", "x", "xya", "xyzz", "xz", "\xfe", strings.Repeat("\xff", 16)) {
		i := 0
		for i < len(keys) && keys[i] < from {
			i++
		}
		for _, limit := range []int{1, 3, 4096} {
			finds(t, scanner(t, x, a, from, limit), keys[i:min(i+limit, len(keys))]...)
		}
	}
	x, a = made()
	s := scanner(t, x, a, "", 3)
	goes(t, s, look, check, through)
	finds(t, s)
}

func TestPairsAreNew(t *testing.T) {
	x, a := made("a")
	s := scanner(t, x, a, "", 1)
	finds(t, s, "a")
	s.Pairs()[0] = api.Pair{}
	finds(t, s, "a")
}

func TestHeldAndChanged(t *testing.T) {
	x, a := made("a", "b")
	s := scanner(t, x, a, "", 9)
	x.Lock(a, 8)
	goes(t, s, begin, begin)
	if s.Rounds() != 0 {
		t.Error(s.Rounds())
	}
	x.Back(a)
	goes(t, s, look, check)
	set(x, a, "c", "vc")
	goes(t, s, begin)
	if s.Rounds() != 1 || s.Tries() != 1 {
		t.Error(s.Rounds(), s.Tries())
	}
	goes(t, s, look, check, kid)
	n, _ := x.Node(a)
	w, _ := x.Begin(n.Kids[0])
	x.Lock(n.Kids[0], w)
	goes(t, s, kid, kid)
	x.Back(n.Kids[0])
	goes(t, s, hand, look)
	set(x, a, "a", "new")
	goes(t, s, check, begin)
	if s.Rounds() != 2 || s.Tries() != 2 || len(s.Pairs()) != 0 {
		t.Error(s.Rounds(), s.Tries(), s.Pairs())
	}
	set(x, a, "a", "va")
	goes(t, s, look, check, kid)
	remove(x, a, "a")
	goes(t, s, begin)
	finds(t, s, "b", "c")
}

func TestLost(t *testing.T) {
	x, a := made("a")
	s := scanner(t, x, a, "", 9)
	goes(t, s, look, check, kid, hand, look, check, begin)
	x.Fell(a)
	goes(t, s, lost, lost)
	if len(s.Pairs()) != 1 {
		t.Error(s.Pairs())
	}
	goes(t, scanner(t, x, a, "", 9), lost)
}

// TestWhileOthersChange checks what a scan promises against all that was there meanwhile.
func TestWhileOthersChange(t *testing.T) {
	r := rand.New(rand.NewSource(1))
	key := func() string {
		var k string
		for range r.Intn(4) {
			k += string(rune('a' + r.Intn(3)))
		}
		return k
	}
	for range 400 {
		x, a := made(key(), key(), key(), key(), key(), key(), key(), key())
		limit, from := 1+r.Intn(12), key()
		s := scanner(t, x, a, from, limit)
		always := map[string]string{}
		for c, v := range x.All(a) {
			always[c] = v
		}
		var p *put.Putter
		var d *drop.Dropper
		for i := 0; s.Place() != through; i++ {
			if i > 100000 {
				t.Fatal("it does not end")
			}
			if r.Intn(4) > 0 || i > 2000 {
				before := len(s.Pairs())
				s.Step()
				if l := s.Pairs(); len(l) > before {
					last := l[len(l)-1]
					if spot, _ := x.Seek(a, coded(last.Key)); spot.What != tree.Here {
						t.Fatal("not there", last)
					} else if n, _ := x.Node(spot.Way[len(spot.Way)-1]); n.Value != last.Value {
						t.Fatal("another value", last, n)
					}
				}
				continue
			}
			if p == nil || p.Place() == put.Through {
				p, _ = put.New(x, a, key(), fmt.Sprint(i), nil)
			}
			if d == nil || d.Place() == drop.Through {
				d, _ = drop.New(x, a, key(), nil)
			}
			p.Step()
			d.Step()
			now := map[string]string{}
			for c, v := range x.All(a) {
				now[c] = v
			}
			for c, v := range always {
				if w, is := now[c]; !is || w != v {
					delete(always, c)
				}
			}
			if i > 1990 {
				p.Quit()
				d.Quit()
			}
		}
		l := s.Pairs()
		if len(l) > limit {
			t.Fatal("too many", l)
		}
		for i, q := range l {
			if q.Key < from || i > 0 && q.Key <= l[i-1].Key {
				t.Fatal("out of order", l)
			}
		}
		for c, v := range always {
			k, _ := code.Decode(c)
			if k < from || len(l) == limit && k > l[len(l)-1].Key {
				continue
			}
			if !slices.Contains(l, api.Pair{Key: k, Value: v}) {
				t.Fatalf("%q is missing in %q", k, l)
			}
		}
	}
}

func TestAnyRefMayBeTheAnchor(t *testing.T) {
	x, a := made("a", "ab", "abc")
	spot, _ := x.Seek(a, coded("abc"))
	for _, r := range spot.Way {
		s := scanner(t, x, r, "", 99)
		for range 500 {
			s.Step()
		}
		if s.Place() != through {
			t.Error(r, s.Place())
		}
	}
}

func TestNil(t *testing.T) {
	for _, s := range []*scan.Scanner{nil, {}} {
		if s.Step() != lost || s.Place() != lost || s.Pairs() != nil || s.Bound() != "" || s.Rounds() != 0 || s.Tries() != 0 {
			t.Error("not nothing")
		}
	}
}
