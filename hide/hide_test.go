package hide_test

import (
	"math"
	"reflect"
	"slices"
	"testing"

	"burgage/api"
	"burgage/engine"
	"burgage/hide"
	"burgage/order"
	"burgage/sample"
)

func h(tenant int) api.Handle { return api.Handle{Tenant: tenant, Gen: 1, Rights: api.All} }

func put(tenant int, key, value string) api.Request {
	return api.Request{Deed: api.Put, Handle: h(tenant), Key: key, Value: value}
}

func create(tenant int) api.Request {
	return api.Request{Deed: api.Create, Tenant: tenant, Quota: api.Limits{Keys: 9, Bytes: 90}}
}

// script returns a script of one session.
func script(picks int, l ...api.Request) api.Script {
	s := api.Script{Picks: make([]int, picks)}
	for _, r := range l {
		s.Entries = append(s.Entries, api.Entry{Request: r})
	}
	return s
}

func TestOwner(t *testing.T) {
	for d := api.Deed(-2); d < 13; d++ {
		want := 0
		switch {
		case d >= api.Get && d <= api.Tell:
			want = 2
		case d >= api.Create && d <= api.Revoke:
			want = 3
		}
		if n := hide.Owner(api.Request{Deed: d, Handle: h(2), Tenant: 3}); n != want {
			t.Error(d, n)
		}
	}
	if n := hide.Owner(api.Request{Deed: api.Get, Handle: h(-99)}); n != -99 {
		t.Error(n)
	}
}

func TestViewAndShare(t *testing.T) {
	l := script(0, create(1), put(2, "", ""), put(1, "", ""), api.Request{}, put(2, "a", "")).Entries
	var d []api.Done
	for _, entry := range []int{2, 1, 9, 0, -1, 4, 3} {
		d = append(d, api.Done{Entry: entry, From: entry * 10, Answer: api.Answer{Pairs: []api.Pair{{Key: "k"}}}})
	}
	entries := func(d []api.Done) []int {
		var out []int
		for _, x := range d {
			out = append(out, x.Entry)
		}
		return out
	}
	for tenant, want := range map[int][]int{1: {2, 0}, 2: {1, 4}, 0: {3}, 3: nil} {
		if got := entries(hide.View(l, d, tenant)); !slices.Equal(got, want) {
			t.Error(tenant, got)
		}
		e, v := hide.Share(l, d, tenant)
		if len(e) != len(want) || len(v) != len(want) {
			t.Fatal(tenant, e, v)
		}
		for i, x := range v {
			if x.From != want[i]*10 || e[x.Entry] != l[want[i]] {
				t.Error(tenant, x)
			}
		}
	}
	hide.View(l, d, 1)[0].Answer.Pairs[0].Key = "z"
	_, v := hide.Share(l, d, 1)
	v[0].Answer.Pairs[0].Key = "z"
	if d[0].Answer.Pairs[0].Key != "k" {
		t.Error("shared memory")
	}
}

func TestAlike(t *testing.T) {
	base := func() api.Script { return script(3, create(1), put(2, "a", "x"), put(1, "b", "y")) }
	for i, c := range []struct {
		change      func(*api.Script)
		one, second bool
	}{
		{func(*api.Script) {}, true, true},
		{func(s *api.Script) { s.Entries[1].Request.Key = "other" }, true, false},
		{func(s *api.Script) { s.Entries[1].Request.Value = "other" }, true, false},
		{func(s *api.Script) { s.Entries[1].Request.Old = "other" }, true, false},
		{func(s *api.Script) { s.Entries[2].Request.Key = "other" }, false, true},
		{func(s *api.Script) { s.Entries[1].Request.Handle.Gen = 2 }, false, false},
		{func(s *api.Script) { s.Entries[1].Request.Handle.Tenant = 3 }, false, false},
		{func(s *api.Script) { s.Entries[1].Request.Deed = api.Swap }, false, false},
		{func(s *api.Script) { s.Entries[1].Request.Limit = 2 }, false, false},
		{func(s *api.Script) { s.Entries[1].Session = 2 }, false, false},
		{func(s *api.Script) { s.Picks[1] = 7 }, false, false},
		{func(s *api.Script) { s.Picks = s.Picks[:2] }, false, false},
		{func(s *api.Script) { s.Entries = s.Entries[:2] }, false, false},
		{func(s *api.Script) { s.Entries[0].Request.Key = "no secret" }, false, false},
		{func(s *api.Script) { s.Entries[0].Request.Quota.Keys = 1 }, false, false},
	} {
		s := base()
		c.change(&s)
		if hide.Alike(base(), s, 1) != c.one || hide.Alike(s, base(), 2) != c.second {
			t.Error(i)
		}
	}
	tell := script(0, api.Request{Deed: api.Tell, Handle: h(2), Key: "a"})
	if hide.Alike(tell, script(0, api.Request{Deed: api.Tell, Handle: h(2)}), 1) {
		t.Error("a Tell has no secrets")
	}
}

func TestBlur(t *testing.T) {
	for seed := range 20 {
		s := sample.Script(seed, 3, 40, 20)
		for tenant := -1; tenant < 4; tenant++ {
			b := hide.Blur(s, tenant)
			if !hide.Alike(s, b, tenant) || !hide.Alike(b, s, tenant) || len(b.Entries) != len(s.Entries) {
				t.Error(seed, tenant)
			}
			for i, x := range b.Entries {
				r := s.Entries[i].Request
				secret := r.Deed >= api.Get && r.Deed <= api.Scan && r.Handle.Tenant != tenant
				if secret && x.Request.Key+x.Request.Value+x.Request.Old != "" || !secret && x != s.Entries[i] {
					t.Error(seed, i, x)
				}
			}
			b.Picks[0]++
			if hide.Alike(s, b, tenant) {
				t.Error("the picks are shared")
			}
		}
	}
}

func TestTimesExample(t *testing.T) {
	s := api.Script{Entries: []api.Entry{{Session: 0, Request: create(1)}, {Session: 0, Request: api.Request{Deed: api.Get}}, {Session: 1, Request: put(1, "a", "")}}, Picks: []int{0, 0, 1, 0, 1, 1, 0}}
	l, e := hide.Times(2, 3, s)
	if !slices.Equal(l, []hide.Span{{0, 0, 0}, {2, 2, 5}, {1, 1, 6}}) || e != api.OK {
		t.Error(l, e)
	}
	s.Picks = s.Picks[:5]
	if l, e := hide.Times(2, 3, s); !slices.Equal(l, []hide.Span{{0, 0, 0}}) || e != api.OK {
		t.Error(l, e)
	}
}

func TestTimesErrors(t *testing.T) {
	long := []api.Script{{Entries: make([]api.Entry, api.MaxEntries+1)}, {Picks: make([]int, api.MaxPicks+1)}}
	for _, s := range long {
		if l, e := hide.Times(0, 0, s); l != nil || e != api.ErrLong {
			t.Error(l, e)
		}
	}
	wrong := api.Script{Entries: []api.Entry{{Session: 2}}}
	for _, c := range [][2]int{{0, 2}, {65, 2}, {1, 1}, {1, 4097}, {math.MinInt, 2}, {1, math.MaxInt}} {
		if l, e := hide.Times(c[0], c[1], wrong); l != nil || e != api.ErrArg {
			t.Error(l, e)
		}
	}
	for _, session := range []int{-1, 2, math.MaxInt} {
		wrong.Entries[0].Session = session
		if l, e := hide.Times(2, 2, wrong); l != nil || e != api.ErrRange {
			t.Error(l, e)
		}
	}
	most := api.Script{Entries: make([]api.Entry, api.MaxEntries), Picks: make([]int, api.MaxPicks)}
	if l, e := hide.Times(64, 4096, most); len(l) != api.MaxEntries || e != api.OK {
		t.Error(len(l), e)
	}
}

func TestCheckErrors(t *testing.T) {
	s := script(20, create(1), put(1, "a", "x"))
	other := script(20, create(1), put(1, "b", "x"))
	check := func(slots, sessions int, a, b api.Script, tenant, want int, errno api.Errno) {
		t.Helper()
		if n, e := hide.Check(slots, sessions, 9, a, b, tenant); n != want || e != errno {
			t.Error(n, e)
		}
	}
	for _, tenant := range []int{0, -1, 17, math.MaxInt} {
		check(9, 1, s, s, tenant, 0, api.ErrArg)
	}
	check(9, 1, s, other, 1, 0, api.ErrArg)
	check(9, 1, s, other, 2, 0, api.OK)
	check(9, 1, s, s, 1, 2, api.OK)
	check(0, 1, s, s, 1, 0, api.ErrArg)
	s.Entries[0].Session = 1
	check(9, 1, s, s, 1, 0, api.ErrRange)
	check(9, 1, api.Script{Picks: make([]int, api.MaxPicks+1)}, api.Script{Picks: make([]int, api.MaxPicks+1)}, 1, 0, api.ErrLong)
	s.Entries[0].Session = 0
	check(1, 1, s, s, 2, 0, api.ErrFull)
	check(2, 1, s, s, 2, 0, api.OK)
	twice := script(40, create(1), put(1, "a", "x"), put(1, "b", "x"))
	same := script(40, create(1), put(1, "a", "x"), put(1, "a", "x"))
	check(2, 1, same, twice, 2, 0, api.ErrFull)
	check(2, 1, twice, same, 2, 0, api.ErrFull)
}

// TestTenantsTellNothingOfOthers checks what follows, for all tenants of many runs.
func TestTenantsTellNothingOfOthers(t *testing.T) {
	same, other := 0, 0
	for seed := range 120 {
		sessions, budget := 1+seed%6, 2+seed%30
		s := sample.Script(seed, sessions, 50, 1200)
		for tenant := 1; tenant <= 3; tenant++ {
			n, e := hide.Check(4000, sessions, budget, s, hide.Blur(s, tenant), tenant)
			if e != api.OK {
				t.Fatal(seed, tenant, n, e)
			}
			same += n
			a, _ := engine.Run(4000, sessions, budget, s)
			b, _ := engine.Run(4000, sessions, budget, hide.Blur(s, tenant))
			if !reflect.DeepEqual(a, b) {
				other++
			}
		}
	}
	if same < 1000 || other < 50 {
		t.Error("too little was compared", same, other)
	}
}

func TestTimesAreThoseOfRuns(t *testing.T) {
	for seed := range 100 {
		sessions, budget := 1+seed%6, 2+seed%30
		s := sample.Script(seed, sessions, 50, 900)
		d, _ := engine.Run(500, sessions, budget, s)
		l, e := hide.Times(sessions, budget, s)
		if e != api.OK || len(l) != len(d) {
			t.Fatal(seed, e, len(l), len(d))
		}
		for i, x := range d {
			if l[i] != (hide.Span{Entry: x.Entry, From: x.From, To: x.To}) {
				t.Error(seed, i, l[i], x)
			}
		}
	}
}

func TestSharesExplainThemselves(t *testing.T) {
	for seed := range 40 {
		s := sample.Script(seed, 4, 30, 3000)
		d, _ := engine.Run(4000, 4, 12, s)
		if len(d) != len(s.Entries) {
			t.Fatal(seed, "not finished")
		}
		for tenant := 0; tenant <= 3; tenant++ {
			l, v := hide.Share(s.Entries, d, tenant)
			if i, e := order.Witness(l, v); i != len(v) || e != api.OK {
				t.Error(seed, tenant, i, e)
			}
		}
	}
}
