package engine_test

import (
	"math"
	"reflect"
	"slices"
	"testing"

	"burgage/api"
	"burgage/engine"
	"burgage/realm"
	"burgage/sample"
	"burgage/weave"
)

var all = api.Handle{Tenant: 1, Gen: 1, Rights: api.All}

func create(tenant int) api.Request {
	return api.Request{Deed: api.Create, Tenant: tenant, Quota: api.Limits{Keys: 9, Bytes: 90}}
}

func put(key, value string) api.Request {
	return api.Request{Deed: api.Put, Handle: all, Key: key, Value: value}
}

func get(key string) api.Request { return api.Request{Deed: api.Get, Handle: all, Key: key} }

func made(t *testing.T, slots, sessions, budget int) *engine.Engine {
	t.Helper()
	e, errno := engine.New(slots, sessions, budget)
	if e == nil || errno != api.OK || e.Room() != slots || e.Held() != 0 || e.Picks() != 0 || len(e.Can()) != 0 || len(e.Tenants()) != 0 || len(e.Done()) != 0 {
		t.Fatal(e, errno)
	}
	return e
}

func ask(t *testing.T, e *engine.Engine, session int, l ...api.Request) {
	t.Helper()
	for _, r := range l {
		n, errno := e.Ask(session, r)
		if x, is := e.Entry(n); errno != api.OK || !is || x != (api.Entry{Session: session, Request: r}) {
			t.Fatal(r, n, errno, x)
		}
	}
}

func finish(e *engine.Engine) {
	for len(e.Can()) > 0 {
		e.Pick(0)
	}
}

// dones checks the times and the errors of what has ended.
func dones(t *testing.T, e *engine.Engine, want ...api.Done) {
	t.Helper()
	got := e.Done()
	if len(got) != len(want) {
		t.Fatal(got)
	}
	for i, d := range got {
		if !reflect.DeepEqual(d, want[i]) {
			t.Errorf("%d: %v is not %v", i, d, want[i])
		}
	}
}

func done(entry, from, at, to int, a api.Answer) api.Done {
	return api.Done{Entry: entry, From: from, At: at, To: to, Answer: a}
}

func failed(e api.Errno) api.Answer { return api.Answer{Err: e} }

func TestNew(t *testing.T) {
	for _, c := range [][3]int{{0, 1, 2}, {4097, 1, 2}, {1, 0, 2}, {1, 65, 2}, {1, 1, 1}, {1, 1, 4097}, {-1, -1, -1}, {math.MaxInt, math.MaxInt, math.MaxInt}} {
		if e, errno := engine.New(c[0], c[1], c[2]); e != nil || errno != api.ErrArg {
			t.Error(c, e, errno)
		}
		if l, errno := engine.Run(c[0], c[1], c[2], api.Script{Entries: []api.Entry{{Session: -1}}}); l != nil || errno != api.ErrArg {
			t.Error(c, l, errno)
		}
	}
	made(t, 4096, 64, 4096)
	made(t, 1, 1, 2)
}

func TestExampleOne(t *testing.T) {
	e := made(t, 40, 2, 12)
	issue := api.Request{Deed: api.Issue, Tenant: 1, Rights: api.All}
	ask(t, e, 0, create(1), issue, put("a", "x"))
	ask(t, e, 1, get("a"))
	finish(e)
	dones(t, e, done(0, 0, 0, 0, api.Answer{}), done(1, 1, 1, 1, api.Answer{Handle: all}), done(2, 2, 7, 13, api.Answer{}), done(3, 14, 21, 25, api.Answer{Value: "x"}))
	if e.Picks() != 26 || e.Room() != 38 || e.Held() != 0 || !slices.Equal(e.Tenants(), []int{1}) {
		t.Error(e.Picks(), e.Room(), e.Held())
	}
	if l, is := e.Has(1); l != (api.Limits{Keys: 1, Bytes: 2}) || !is {
		t.Error(l, is)
	}
	if s, is := e.Stat(1); s != (api.Stat{Keys: 1, Bytes: 2, Gets: 1, Puts: 1, Hits: 2, Load: 1 + 0.5i}) || !is {
		t.Error(s, is)
	}
	for p, v := range e.All() {
		if want, _ := realm.Join(1, "a"); p != want || v != "x" {
			t.Error(p, v)
		}
	}
}

func TestExampleTwo(t *testing.T) {
	e := made(t, 40, 2, 12)
	ask(t, e, 0, create(1), api.Request{Deed: api.Issue, Tenant: 1, Rights: api.All}, put("a", "x"))
	ask(t, e, 1, get("a"))
	e.Pick(0)
	e.Pick(0)
	for i := 0; len(e.Can()) > 0; i++ {
		e.Pick(i)
	}
	l := e.Done()
	if l[2].Entry != 2 || l[2].At != 12 || l[2].To != 24 || l[3].At != 9 || l[3].To != 25 || l[3].Answer.Err != api.ErrNone {
		t.Error(l)
	}
}

func TestRequests(t *testing.T) {
	e := made(t, 40, 1, 30)
	read := api.Handle{Tenant: 1, Gen: 1, Rights: api.Read}
	ask(t, e, 0,
		create(0), create(17), create(1), create(1),
		api.Request{Deed: api.Remove, Tenant: 0}, api.Request{Deed: api.Remove, Tenant: 2}, api.Request{Deed: api.Revoke, Tenant: 2}, api.Request{Deed: api.Issue, Tenant: 1, Rights: 8}, api.Request{Deed: api.Issue, Tenant: 2, Rights: 7},
		api.Request{}, api.Request{Deed: -1}, api.Request{Deed: 11},
		api.Request{Deed: api.Tell, Handle: all}, api.Request{Deed: api.Tell, Handle: api.Handle{Tenant: 1, Gen: 1, Rights: api.Walk}}, api.Request{Deed: api.Tell, Handle: api.Handle{Tenant: 1, Gen: 2, Rights: 7}})
	finish(e)
	var got []api.Errno
	for i, d := range e.Done() {
		if d.Entry != i || d.From != i || d.At != i || d.To != i {
			t.Error(d)
		}
		got = append(got, d.Answer.Err)
	}
	want := []api.Errno{api.ErrArg, api.ErrArg, api.OK, api.ErrTwice, api.ErrArg, api.ErrNone, api.ErrNone, api.ErrArg, api.ErrNone, api.ErrArg, api.ErrArg, api.ErrArg, api.OK, api.ErrRights, api.ErrRevoked}
	if !slices.Equal(got, want) {
		t.Error(got)
	}
	n := len(e.Done())
	ask(t, e, 0, put("a", "1"), api.Request{Deed: api.Put, Handle: read, Key: "a"}, api.Request{Deed: api.Tell, Handle: all}, api.Request{Deed: api.Revoke, Tenant: 1}, get("a"), api.Request{Deed: api.Remove, Tenant: 1}, create(1), api.Request{Deed: api.Issue, Tenant: 1, Rights: 3})
	finish(e)
	l := e.Done()[n:]
	// Both Tells and what was refused for lack of rights are in the statistics, what had no good handle is not.
	told := api.Stat{Keys: 1, Bytes: 2, Puts: 2, Hits: 1, Refused: 1, Load: 0.25*1.5 + 1.5i}
	if l[2].Answer.Stat != told || l[1].Answer.Err != api.ErrRights || l[4].Answer.Err != api.ErrRevoked || l[7].Answer.Handle != (api.Handle{Tenant: 1, Gen: 3, Rights: 3}) {
		t.Error(l)
	}
	if s, is := e.Stat(1); s != (api.Stat{}) || !is {
		t.Error("a new tenant has zero statistics", s)
	}
}

func TestFull(t *testing.T) {
	e := made(t, 2, 1, 12)
	ask(t, e, 0, create(1), put("a", "x"), put("b", "x"), create(2))
	finish(e)
	dones(t, e, done(0, 0, 0, 0, api.Answer{}), done(1, 1, 6, 12, api.Answer{}), done(2, 13, 18, 24, failed(api.ErrFull)), done(3, 25, 25, 25, failed(api.ErrFull)))
}

func TestEffort(t *testing.T) {
	e := made(t, 40, 2, 12)
	ask(t, e, 0, create(1), put("a", "x"))
	ask(t, e, 1, put("b", "y"))
	if x, is := e.Effort(2); x != (engine.Effort{}) || !is {
		t.Error(x, is)
	}
	for _, p := range []int{0, 0, 1, 0, 1, 0, 1, 0, 1, 0, 1, 0} {
		e.Pick(p)
	}
	if e.Room() != 38 || e.Held() != 1 {
		t.Error(e.Room(), e.Held())
	}
	if x, is := e.Effort(2); x != (engine.Effort{Picks: 5, Tries: 1, Taken: 1, Met: 1}) || !is {
		t.Error(x, is)
	}
	if x, _ := e.Effort(1); x != (engine.Effort{Picks: 6}) {
		t.Error(x)
	}
	finish(e)
	if x, _ := e.Effort(1); x != (engine.Effort{Picks: 6}) {
		t.Error("picks after the decision count", x)
	}
	if x, _ := e.Effort(0); x != (engine.Effort{Picks: 1}) {
		t.Error(x)
	}
	for _, n := range []int{-1, 3} {
		if x, is := e.Effort(n); x != (engine.Effort{}) || is {
			t.Error(x, is)
		}
		if x, is := e.Entry(n); x != (api.Entry{}) || is {
			t.Error(x, is)
		}
	}
}

func TestMetOfOtherJobs(t *testing.T) {
	e := made(t, 40, 2, 12)
	ask(t, e, 0, create(1), put("a", "x"))
	ask(t, e, 1, api.Request{Deed: api.Revoke, Tenant: 2})
	for range 6 {
		e.Pick(0)
	}
	if e.Held() != 1 {
		t.Fatal(e.Held())
	}
	e.Pick(1)
	if x, _ := e.Effort(2); x != (engine.Effort{Picks: 1, Met: 1}) {
		t.Error(x)
	}
}

func TestPick(t *testing.T) {
	e := made(t, 9, 3, 2)
	if x, is := e.Pick(5); x != (weave.Turn{}) || is || e.Picks() != 1 {
		t.Error(x, is)
	}
	ask(t, e, 2, create(1))
	ask(t, e, 0, get("a"))
	if l := e.Can(); !slices.Equal(l, []int{0, 2}) {
		t.Error(l)
	}
	if x, is := e.Pick(-1); x != (weave.Turn{Job: 0, Session: 2, Began: true, Ended: true}) || !is {
		t.Error(x, is)
	}
	dones(t, e, done(0, 1, 1, 1, api.Answer{}))
}

func TestAskAndRun(t *testing.T) {
	e := made(t, 9, 2, 2)
	for _, session := range []int{-1, 2, math.MaxInt} {
		if n, errno := e.Ask(session, get("a")); n != 0 || errno != api.ErrRange {
			t.Error(n, errno)
		}
	}
	for range api.MaxEntries {
		e.Ask(0, get("a"))
	}
	if n, errno := e.Ask(0, get("a")); n != 0 || errno != api.ErrFull {
		t.Error(n, errno)
	}
	for _, s := range []api.Script{{Entries: make([]api.Entry, api.MaxEntries+1)}, {Picks: make([]int, api.MaxPicks+1)}} {
		if l, errno := engine.Run(0, 0, 0, s); l != nil || errno != api.ErrLong {
			t.Error(l, errno)
		}
	}
	if l, errno := engine.Run(9, 2, 2, api.Script{Entries: []api.Entry{{}, {Session: 2}}}); l != nil || errno != api.ErrRange {
		t.Error(l, errno)
	}
	if l, errno := engine.Run(9, 2, 2, api.Script{Entries: []api.Entry{{Request: create(1)}, {Request: create(2)}}, Picks: []int{0}}); len(l) != 1 || errno != api.OK {
		t.Error(l, errno)
	}
}

func TestDonesAreNew(t *testing.T) {
	e := made(t, 40, 1, 30)
	ask(t, e, 0, create(1), put("a", "x"), api.Request{Deed: api.Scan, Handle: all, Limit: 1})
	finish(e)
	e.Done()[2].Answer.Pairs[0] = api.Pair{}
	if l := e.Done(); l[2].Answer.Pairs[0] != (api.Pair{Key: "a", Value: "x"}) {
		t.Error(l)
	}
}

// stored returns what lies below the anchors of tenants.
func stored(t *testing.T, e *engine.Engine) map[int]api.Limits {
	t.Helper()
	l := map[int]api.Limits{}
	for p, v := range e.All() {
		tenant, key, errno := realm.Split(p)
		if errno != api.OK {
			t.Fatal(p, errno)
		}
		l[tenant] = api.Limits{Keys: l[tenant].Keys + 1, Bytes: l[tenant].Bytes + uint64(len(key)+len(v))}
	}
	return l
}

func TestBalancesAreWhatIsStored(t *testing.T) {
	for seed := range 60 {
		slots, sessions, budget := 10+seed*3, 1+seed%7, 2+seed%40
		s := sample.Script(seed, sessions, 80, 0)
		e := made(t, slots, sessions, budget)
		for _, x := range s.Entries {
			ask(t, e, x.Session, x.Request)
		}
		r := sample.From(seed)
		open := map[int]bool{}
		for len(e.Can()) > 0 {
			turn, _ := e.Pick(r.Below(1 << 20))
			open[turn.Job] = true
			if turn.Ended {
				delete(open, turn.Job)
			}
			l := stored(t, e)
			for _, tenant := range e.Tenants() {
				if has, _ := e.Has(tenant); has != l[tenant] {
					t.Fatal(seed, tenant, has, l)
				}
				delete(l, tenant)
			}
			if len(l) != 0 || len(open) == 0 && e.Held() != 0 {
				t.Fatal(seed, l, e.Held())
			}
		}
		for _, n := range e.Tenants() {
			if ask(t, e, 0, api.Request{Deed: api.Remove, Tenant: n}); n == 0 {
				t.Error(n)
			}
		}
		finish(e)
		if e.Room() != slots {
			t.Error(seed, "a place was lost", e.Room())
		}
	}
}

func TestRunsAreRepeatable(t *testing.T) {
	s := sample.Script(7, 4, 60, 3000)
	a, _ := engine.Run(100, 4, 25, s)
	b, _ := engine.Run(100, 4, 25, s)
	if !reflect.DeepEqual(a, b) || len(a) == 0 {
		t.Error("two runs differ")
	}
}

func TestNil(t *testing.T) {
	for _, e := range []*engine.Engine{nil, {}} {
		if n, errno := e.Ask(-1, api.Request{}); n != 0 || errno != api.ErrNil {
			t.Error(n, errno)
		}
		if x, is := e.Pick(0); x != (weave.Turn{}) || is {
			t.Error(x)
		}
		if x, is := e.Entry(0); x != (api.Entry{}) || is {
			t.Error(x)
		}
		if x, is := e.Effort(0); x != (engine.Effort{}) || is {
			t.Error(x)
		}
		if x, is := e.Stat(1); x != (api.Stat{}) || is {
			t.Error(x)
		}
		if x, is := e.Has(1); x != (api.Limits{}) || is {
			t.Error(x)
		}
		if e.Done() != nil || e.Tenants() != nil || e.Can() != nil || e.Picks() != 0 || e.Room() != 0 || e.Held() != 0 {
			t.Error("not nothing")
		}
		for range e.All() {
			t.Error("something")
		}
	}
}
