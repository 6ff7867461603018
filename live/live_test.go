package live_test

import (
	"math"
	"slices"
	"strings"
	"testing"

	"burgage/api"
	"burgage/engine"
	"burgage/live"
	"burgage/op"
	"burgage/sample"
)

const top = 1 << 40

func r(d api.Deed, key string) api.Request { return api.Request{Deed: d, Key: key, Limit: 2} }

func TestIs(t *testing.T) {
	for d := api.Deed(-1); d < 13; d++ {
		want := d >= api.Get && d <= api.Scan
		if live.Is(r(d, "a")) != want || live.Way(r(d, "a")) > 0 != want || live.Bound(r(d, "a"), 0) > 0 != want || live.Fair(r(d, "a"), engine.Effort{}) != want {
			t.Error(d)
		}
	}
	for _, d := range []api.Deed{api.Get, api.Put, api.Delete, api.Swap, api.Scan} {
		for _, x := range []api.Request{{Key: strings.Repeat("k", 17)}, {Value: strings.Repeat("v", 33)}, {Old: strings.Repeat("v", 33)}} {
			x.Deed = d
			if live.Is(x) || live.Way(x) != 0 || live.Bound(x, 1) != 0 || live.Fair(x, engine.Effort{}) || live.Enough(x, 0, 0) != 0 {
				t.Error(x)
			}
		}
	}
	for limit, want := range map[int]bool{0: true, 4096: true, -1: false, 4097: false, math.MinInt: false} {
		if live.Is(api.Request{Deed: api.Scan, Limit: limit}) != want || !live.Is(api.Request{Deed: api.Get, Limit: limit}) {
			t.Error(limit)
		}
	}
}

func TestWay(t *testing.T) {
	for _, c := range []struct {
		d    api.Deed
		key  string
		want int
	}{{api.Get, "ab", 19}, {api.Put, "ab", 22}, {api.Swap, "ab", 22}, {api.Delete, "ab", 25}, {api.Scan, "ab", 139}, {api.Scan, "", 139}, {api.Get, "", 11}, {api.Get, "\x00", 19}, {api.Delete, strings.Repeat("\x00", 16), 4*34 + 9}} {
		if n := live.Way(r(c.d, c.key)); n != c.want {
			t.Error(c, n)
		}
	}
}

func TestBound(t *testing.T) {
	for _, c := range []struct {
		r           api.Request
		tries, want int
	}{{r(api.Put, "ab"), 0, 23}, {r(api.Put, "ab"), 2, 67}, {r(api.Scan, "ab"), 1, 10149}, {r(api.Scan, "ab"), 0, 10010}, {api.Request{Deed: api.Scan}, 0, 2}, {r(api.Get, "ab"), top, (top+1)*19 + 1}, {r(api.Get, "ab"), top + 1, 0}, {r(api.Get, "ab"), -1, 0}, {r(api.Get, "ab"), math.MaxInt, 0}, {r(api.Tell, "ab"), 0, 0}} {
		if n := live.Bound(c.r, c.tries); n != c.want {
			t.Error(c, n)
		}
	}
}

func TestFair(t *testing.T) {
	for _, c := range []struct {
		x    engine.Effort
		want bool
	}{
		{engine.Effort{Picks: 24, Met: 1}, true},
		{engine.Effort{Picks: 25, Met: 1}, false},
		{engine.Effort{Picks: 20, Tries: 2}, false},
		{engine.Effort{Picks: 20, Tries: 2, Taken: 1}, true},
		{engine.Effort{Picks: 67, Tries: 2, Taken: 9}, true},
		{engine.Effort{Picks: 68, Tries: 2, Taken: 9}, false},
		{engine.Effort{Picks: -1}, false},
		{engine.Effort{Tries: -1}, false},
		{engine.Effort{Taken: -1}, false},
		{engine.Effort{Met: -1}, false},
		{engine.Effort{Picks: top, Tries: top, Taken: top, Met: top}, true},
		{engine.Effort{Picks: top + 1, Tries: top, Taken: top, Met: top}, false},
		{engine.Effort{Tries: top + 1, Taken: top}, false},
		{engine.Effort{Taken: top + 1}, false},
		{engine.Effort{Met: math.MaxInt}, false},
	} {
		if live.Fair(r(api.Put, "ab"), c.x) != c.want {
			t.Error(c)
		}
	}
}

func TestEnough(t *testing.T) {
	for _, c := range []struct {
		r                api.Request
		tries, met, want int
	}{
		{r(api.Get, "ab"), 0, 0, 21},
		{r(api.Get, "ab"), 0, 5, 26},
		{r(api.Get, "ab"), 1, 0, 40},
		{r(api.Scan, "ab"), 0, 0, 3337},
		{api.Request{Deed: api.Scan}, 0, 0, 3},
		{r(api.Get, "ab"), 0, 4075, 4096},
		{r(api.Get, "ab"), 0, 4076, 0},
		{r(api.Get, "ab"), top, top, 0},
		{r(api.Get, "ab"), -1, 0, 0},
		{r(api.Get, "ab"), 0, -1, 0},
		{r(api.Get, "ab"), top + 1, 0, 0},
		{r(api.Get, "ab"), 0, math.MaxInt, 0},
		{r(api.Create, "ab"), 0, 0, 0},
	} {
		if n := live.Enough(c.r, c.tries, c.met); n != c.want {
			t.Error(c, n)
		}
	}
	for limit := range 100 {
		x := api.Request{Deed: api.Scan, Limit: limit}
		want := 0
		for b := 2; b <= api.MaxBudget && want == 0; b++ {
			if op.Picks(x, b) > live.Bound(x, 3)+7 {
				want = b
			}
		}
		if n := live.Enough(x, 3, 7); n != want {
			t.Error(limit, n, want)
		}
	}
}

func TestLate(t *testing.T) {
	l := make([]api.Entry, 3)
	d := func(entry, from, at int, e api.Errno) api.Done {
		return api.Done{Entry: entry, From: from, At: at, Answer: api.Answer{Err: e}}
	}
	got := live.Late(l, []api.Done{d(0, 0, 5, api.ErrBusy), d(1, 0, 9, api.OK), d(1, 2, 9, api.ErrBusy), d(3, 0, 9, api.ErrBusy), d(-1, 0, 9, api.ErrBusy), d(2, 4, 9, api.ErrBusy), d(2, -1, 9, api.ErrBusy), d(2, 9, 8, api.ErrBusy), d(2, 3, 3, api.ErrBusy), d(2, 0, math.MaxInt, api.ErrBusy)})
	if !slices.Equal(got, []int{9, 2, 0, 5, 8}) {
		t.Error(got)
	}
	if got := live.Late(nil, []api.Done{d(0, 0, 0, api.ErrBusy)}); len(got) != 0 {
		t.Error(got)
	}
}

func TestWatch(t *testing.T) {
	if n, e := live.Watch(nil); n != 0 || e != api.ErrNil {
		t.Error(n, e)
	}
	if n, e := live.Watch(new(engine.Engine)); n != 0 || e != api.OK {
		t.Error(n, e)
	}
}

// run does a script to its end, watching all efforts.
func run(t *testing.T, seed, slots, sessions, budget int, s api.Script) *engine.Engine {
	t.Helper()
	e, _ := engine.New(slots, sessions, budget)
	for _, x := range s.Entries {
		e.Ask(x.Session, x.Request)
	}
	r := sample.From(seed)
	for i := 0; len(e.Can()) > 0; i++ {
		e.Pick(r.Below(1 << 20))
		if i%50 > 0 && len(e.Can()) > 0 {
			continue
		}
		if n, errno := live.Watch(e); n != len(s.Entries) || errno != api.OK {
			x, _ := e.Entry(n)
			effort, _ := e.Effort(n)
			t.Fatal(seed, n, errno, x, effort)
		}
	}
	return e
}

func TestEveryEffortIsFair(t *testing.T) {
	for seed := range 200 {
		sessions, budget := 1+seed%12, 2+seed*3%100
		run(t, seed, 30+seed*7, sessions, budget, sample.Script(seed, sessions, 60, 0))
	}
}

func TestAloneEnoughIsEnough(t *testing.T) {
	keys := []string{"", "a", "ab", "abc", "\x00\x00", "abcdefghijklmnop", "abcdefghijklmno", strings.Repeat("\x00", 16), strings.Repeat("\xff", 16)}
	all := api.Handle{Tenant: 1, Gen: 1, Rights: api.All}
	for _, d := range []api.Deed{api.Get, api.Put, api.Delete, api.Swap} {
		for _, key := range keys {
			x := api.Request{Deed: d, Handle: all, Key: key}
			budget := live.Enough(x, 0, 0)
			e, _ := engine.New(200, 1, budget)
			e.Ask(0, api.Request{Deed: api.Create, Tenant: 1, Quota: api.Limits{Keys: 99, Bytes: 9999}})
			for _, k := range keys {
				e.Ask(0, api.Request{Deed: api.Put, Handle: all, Key: k})
			}
			n, _ := e.Ask(0, x)
			for len(e.Can()) > 0 {
				e.Pick(0)
			}
			if a := e.Done()[n].Answer; a.Err == api.ErrBusy {
				t.Error(x, budget)
			}
		}
	}
}
