package order_test

import (
	"math"
	"reflect"
	"slices"
	"strings"
	"testing"

	"burgage/api"
	"burgage/engine"
	"burgage/order"
	"burgage/sample"
)

var all = api.Handle{Tenant: 1, Gen: 1, Rights: api.All}

func create(tenant int, keys, bytes uint64) api.Request {
	return api.Request{Deed: api.Create, Tenant: tenant, Quota: api.Limits{Keys: keys, Bytes: bytes}}
}

func put(key, value string) api.Request {
	return api.Request{Deed: api.Put, Handle: all, Key: key, Value: value}
}

func get(key string) api.Request  { return api.Request{Deed: api.Get, Handle: all, Key: key} }
func drop(key string) api.Request { return api.Request{Deed: api.Delete, Handle: all, Key: key} }

func swap(key, old, value string) api.Request {
	return api.Request{Deed: api.Swap, Handle: all, Key: key, Old: old, Value: value}
}

func scan(key string, limit int) api.Request {
	return api.Request{Deed: api.Scan, Handle: all, Key: key, Limit: limit}
}

func failed(e api.Errno) api.Answer { return api.Answer{Err: e} }

func entries(sessions []int, l ...api.Request) []api.Entry {
	var out []api.Entry
	for i, r := range l {
		out = append(out, api.Entry{Session: sessions[i], Request: r})
	}
	return out
}

func done(entry, from, at, to int, a api.Answer) api.Done {
	return api.Done{Entry: entry, From: from, At: at, To: to, Answer: a}
}

// does checks what a model answers.
func does(t *testing.T, m *order.Model, r api.Request, want api.Answer) {
	t.Helper()
	a := m.Do(r)
	if !slices.Equal(a.Pairs, want.Pairs) {
		t.Errorf("%v: %v", r, a)
	}
	a.Pairs, want.Pairs = nil, nil
	if !reflect.DeepEqual(a, want) {
		t.Errorf("%v: %v is not %v", r, a, want)
	}
}

func TestOperations(t *testing.T) {
	m := order.New()
	longKey, longValue := strings.Repeat("k", 17), strings.Repeat("v", 33)
	does(t, m, get("a"), failed(api.ErrRevoked))
	does(t, m, create(1, 2, 9), api.Answer{})
	for d := api.Get; d <= api.Scan; d++ {
		for _, r := range []api.Request{{Key: longKey}, {Value: longValue}, {Old: longValue}} {
			r.Deed = d
			does(t, m, r, failed(api.ErrArg))
		}
		does(t, m, api.Request{Deed: d, Key: "a"}, failed(api.ErrRevoked))
		does(t, m, api.Request{Deed: d, Handle: api.Handle{Tenant: 1, Gen: 2, Rights: 7}}, failed(api.ErrRevoked))
	}
	does(t, m, api.Request{Deed: api.Put, Handle: api.Handle{Tenant: 1, Gen: 1, Rights: 5}}, failed(api.ErrRights))
	does(t, m, scan("", -1), failed(api.ErrArg))
	does(t, m, scan("", 4097), failed(api.ErrArg))
	does(t, m, put("b", "123"), api.Answer{})
	does(t, m, put("a", "1234"), api.Answer{})
	does(t, m, put("a", "12345"), failed(api.ErrQuota))
	does(t, m, put("c", ""), failed(api.ErrQuota))
	does(t, m, get("a"), api.Answer{Value: "1234"})
	does(t, m, swap("a", "x", ""), failed(api.ErrDiffer))
	does(t, m, swap("a", "1234", "1"), api.Answer{})
	does(t, m, swap("c", "", ""), failed(api.ErrNone))
	does(t, m, scan("", 4096), api.Answer{Pairs: []api.Pair{{Key: "a", Value: "1"}, {Key: "b", Value: "123"}}})
	does(t, m, scan("b", 1), api.Answer{Pairs: []api.Pair{{Key: "b", Value: "123"}}})
	does(t, m, drop("a"), api.Answer{})
	does(t, m, drop("a"), failed(api.ErrNone))
	does(t, m, get("a"), failed(api.ErrNone))
	if l := m.Pairs(1); !slices.Equal(l, []api.Pair{{Key: "b", Value: "123"}}) || len(m.Pairs(2)) != 0 || len(m.Pairs(0)) != 0 || len(m.Pairs(99)) != 0 {
		t.Error(l)
	}
}

func TestTenants(t *testing.T) {
	m := order.New()
	for _, n := range []int{0, 17, -1, math.MaxInt} {
		does(t, m, create(n, 1, 1), failed(api.ErrArg))
		for _, d := range []api.Deed{api.Remove, api.Revoke, api.Issue} {
			does(t, m, api.Request{Deed: d, Tenant: n, Rights: 1}, failed(api.ErrArg))
		}
	}
	for _, d := range []api.Deed{api.Remove, api.Revoke, api.Issue} {
		does(t, m, api.Request{Deed: d, Tenant: 1, Rights: 1}, failed(api.ErrNone))
	}
	does(t, m, api.Request{Deed: api.Issue, Tenant: 1, Rights: 8}, failed(api.ErrArg))
	does(t, m, api.Request{Deed: api.Issue, Tenant: 1}, failed(api.ErrArg))
	for _, d := range []api.Deed{0, -1, 11} {
		does(t, m, api.Request{Deed: d, Tenant: 1, Handle: all}, failed(api.ErrArg))
	}
	does(t, m, create(16, 1, 1), api.Answer{})
	does(t, m, create(1, 1, 9), api.Answer{})
	does(t, m, create(1, 1, 1), failed(api.ErrTwice))
	does(t, m, api.Request{Deed: api.Issue, Tenant: 1, Rights: 3}, api.Answer{Handle: api.Handle{Tenant: 1, Gen: 1, Rights: 3}})
	does(t, m, put("a", "x"), api.Answer{})
	if !slices.Equal(m.Tenants(), []int{1, 16}) || !m.Good(all) {
		t.Error(m.Tenants())
	}
	does(t, m, api.Request{Deed: api.Revoke, Tenant: 1}, api.Answer{})
	if m.Good(all) || len(m.Pairs(1)) != 1 {
		t.Error("revoked")
	}
	does(t, m, api.Request{Deed: api.Remove, Tenant: 1}, api.Answer{})
	if m.Good(api.Handle{Tenant: 1, Gen: 2, Rights: 7}) || len(m.Pairs(1)) != 0 {
		t.Error("removed")
	}
	does(t, m, create(1, 1, 1), api.Answer{})
	does(t, m, api.Request{Deed: api.Issue, Tenant: 1, Rights: 7}, api.Answer{Handle: api.Handle{Tenant: 1, Gen: 3, Rights: 7}})
	for _, h := range []api.Handle{{}, {Tenant: 17, Gen: 1, Rights: 7}, {Tenant: 1, Gen: 3, Rights: 8}, {Tenant: 1, Gen: 3}, {Tenant: -1, Gen: 3, Rights: 7}} {
		if m.Good(h) {
			t.Error(h)
		}
	}
}

func TestTellAndEnded(t *testing.T) {
	m := order.New()
	tell := api.Request{Deed: api.Tell, Handle: all}
	does(t, m, tell, failed(api.ErrRevoked))
	m.Ended(get("a"), api.Answer{})
	does(t, m, create(1, 9, 9), api.Answer{})
	does(t, m, api.Request{Deed: api.Tell, Handle: api.Handle{Tenant: 1, Gen: 1, Rights: 6}}, failed(api.ErrRights))
	does(t, m, put("a", "xy"), api.Answer{})
	does(t, m, tell, api.Answer{Stat: api.Stat{Keys: 1, Bytes: 3}})
	m.Ended(get("a"), api.Answer{})
	m.Ended(put("a", ""), failed(api.ErrQuota))
	m.Ended(api.Request{Deed: api.Create, Handle: all}, api.Answer{})
	m.Ended(api.Request{Deed: api.Get, Handle: api.Handle{Tenant: 1, Gen: 2, Rights: 7}}, api.Answer{})
	does(t, m, tell, api.Answer{Stat: api.Stat{Keys: 1, Bytes: 3, Gets: 1, Puts: 1, Hits: 1, Refused: 1, Load: 0.5 + 1i}})
	does(t, m, api.Request{Deed: api.Remove, Tenant: 1}, api.Answer{})
	does(t, m, create(1, 9, 9), api.Answer{})
	tell.Handle.Gen = 2
	does(t, m, tell, api.Answer{})
}

func TestStep(t *testing.T) {
	m := order.New()
	step := func(r api.Request, a api.Answer, want bool, pairs int) {
		t.Helper()
		if m.Step(r, a) != want || len(m.Pairs(1)) != pairs {
			t.Error(r, a, m.Pairs(1))
		}
	}
	step(create(1, 2, 90), failed(api.ErrNone), false, 0)
	step(create(1, 2, 90), failed(api.ErrFull), true, 0)
	step(get("a"), failed(api.ErrBusy), true, 0)
	step(get("a"), failed(api.ErrRevoked), true, 0)
	step(create(1, 2, 90), failed(api.ErrBusy), false, 0)
	step(create(1, 2, 90), api.Answer{}, true, 0)
	step(create(1, 2, 90), failed(api.ErrFull), false, 0)
	step(put("a", "x"), failed(api.ErrBusy), true, 0)
	step(put("a", "x"), failed(api.ErrFull), true, 0)
	step(put("a", "x"), api.Answer{Value: "x"}, false, 0)
	step(put("a", "x"), failed(api.ErrNone), false, 0)
	step(put("a", "x"), api.Answer{}, true, 1)
	step(put("a", "y"), failed(api.ErrFull), false, 1)
	step(put("a", "y"), failed(api.ErrBusy), true, 1)
	step(drop("a"), failed(api.ErrNone), false, 1)
	step(drop("a"), failed(api.ErrFull), false, 1)
	step(drop("a"), failed(api.ErrBusy), true, 1)
	step(swap("a", "x", "z"), failed(api.ErrBusy), true, 1)
	step(swap("a", "y", "z"), api.Answer{}, false, 1)
	step(get("a"), api.Answer{Value: "x"}, true, 1)
	step(get("a"), api.Answer{Value: "y"}, false, 1)
	step(get("a"), api.Answer{Value: "x", Err: api.ErrBusy}, false, 1)
	step(get("a"), api.Answer{Value: "x", Pairs: []api.Pair{{}}}, false, 1)
	step(get("a"), api.Answer{Err: api.ErrBusy, Pairs: []api.Pair{{}}}, false, 1)
	step(get(strings.Repeat("k", 17)), failed(api.ErrBusy), false, 1)
	step(get(strings.Repeat("k", 17)), failed(api.ErrArg), true, 1)
	step(scan("", 9), api.Answer{Pairs: []api.Pair{{Key: "anything"}}}, true, 1)
	step(scan("", 9), api.Answer{Value: "x"}, false, 1)
	step(scan("", -1), api.Answer{Err: api.ErrArg, Pairs: []api.Pair{{}}}, false, 1)
	step(scan("", 9), failed(api.ErrBusy), true, 1)
	step(api.Request{Deed: api.Tell, Handle: all}, failed(api.ErrBusy), false, 1)
	step(api.Request{Deed: api.Tell, Handle: all}, api.Answer{}, false, 1)
	step(api.Request{Deed: api.Tell, Handle: all}, api.Answer{Stat: api.Stat{Keys: 1, Bytes: 2}}, true, 1)
	step(api.Request{Deed: api.Remove, Tenant: 1}, failed(api.ErrNone), false, 1)
	step(api.Request{Deed: api.Revoke, Tenant: 1}, failed(api.ErrNone), false, 1)
	if !m.Good(all) {
		t.Error("a Revoke that did not fit was done")
	}
	step(put("b", "y"), api.Answer{}, true, 2)
	step(put("c", ""), failed(api.ErrFull), false, 2)
	step(put("c", ""), failed(api.ErrQuota), true, 2)
	step(api.Request{Deed: api.Remove, Tenant: 1}, api.Answer{}, true, 0)
}

func TestCopyIsIndependent(t *testing.T) {
	m := order.New()
	m.Do(create(1, 9, 99))
	m.Do(put("a", "x"))
	c := m.Copy()
	m.Do(drop("a"))
	m.Do(create(2, 9, 99))
	c.Do(put("b", "y"))
	c.Ended(get("a"), api.Answer{})
	if len(m.Pairs(1)) != 0 || len(c.Pairs(1)) != 2 || len(c.Tenants()) != 1 {
		t.Error(m.Pairs(1), c.Pairs(1))
	}
	does(t, m, api.Request{Deed: api.Tell, Handle: all}, api.Answer{})
}

func TestNil(t *testing.T) {
	for _, m := range []*order.Model{nil, {}} {
		m.Ended(get("a"), api.Answer{})
		if m.Do(get("a")).Err != api.ErrNil || m.Step(get("a"), failed(api.ErrNil)) || m.Good(all) || m.Tenants() != nil || m.Pairs(1) != nil || m.Copy() != nil {
			t.Error("not nothing")
		}
	}
}

// example is the first example of the chapter.
func example() ([]api.Entry, []api.Done) {
	l := entries([]int{0, 0, 1}, create(1, 1, 9), put("a", "x"), get("a"))
	d := []api.Done{done(0, 0, 0, 0, api.Answer{}), done(1, 1, 6, 12, api.Answer{}), done(2, 2, 7, 13, api.Answer{Value: "x"})}
	return l, d
}

// result checks an index and an error.
func result(t *testing.T, i int, e api.Errno, wantI int, wantE api.Errno) {
	t.Helper()
	if i != wantI || e != wantE {
		t.Error(i, e, "is not", wantI, wantE)
	}
}

func TestCheck(t *testing.T) {
	check := func(change func(d []api.Done) []api.Done, at int, want api.Errno) {
		t.Helper()
		l, d := example()
		d = change(d)
		i, e := order.Check(l, d)
		result(t, i, e, at, want)
		if want != api.OK {
			i, e = order.Witness(l, d)
			result(t, i, e, at, want)
			i, e = order.Scans(l, d)
			result(t, i, e, at, want)
			if x, e := order.Search(l, d); x != nil || e != want {
				t.Error(x, e)
			}
			if order.Fits(l, d, []int{0, 1, 2}) {
				t.Error("it fits")
			}
		}
	}
	check(func(d []api.Done) []api.Done { return d }, 3, api.OK)
	check(func(d []api.Done) []api.Done { return nil }, 0, api.OK)
	for _, n := range []int{-1, 3, math.MaxInt} {
		check(func(d []api.Done) []api.Done { d[1].Entry, d[1].From = n, -1; return d }, 1, api.ErrRange)
	}
	check(func(d []api.Done) []api.Done { d[2].Entry, d[2].From = 1, -1; return d }, 2, api.ErrTwice)
	check(func(d []api.Done) []api.Done { d[0].From = -1; return d }, 0, api.ErrShape)
	check(func(d []api.Done) []api.Done { d[1].At = 0; return d }, 1, api.ErrShape)
	check(func(d []api.Done) []api.Done { d[1].To = 5; return d }, 1, api.ErrShape)
	check(func(d []api.Done) []api.Done { d[2].From = 1; return d }, 2, api.ErrShape)
	check(func(d []api.Done) []api.Done { d[2].From = 6; return d }, 2, api.ErrShape)
	check(func(d []api.Done) []api.Done { d[2].At = 12; return d }, 2, api.ErrShape)
	check(func(d []api.Done) []api.Done { d[2].To = 12; return d }, 2, api.ErrShape)
	check(func(d []api.Done) []api.Done { return d[1:] }, 0, api.ErrState)
	check(func(d []api.Done) []api.Done { d[0].At, d[0].To = 1, 15; return []api.Done{d[1], d[0]} }, 0, api.ErrState)
	check(func(d []api.Done) []api.Done { d[0].To = 1; d[1].From = 1; return []api.Done{d[1], d[0]} }, 0, api.ErrState)
	check(func(d []api.Done) []api.Done { return []api.Done{d[1], d[0]} }, 2, api.OK)
	check(func(d []api.Done) []api.Done { return []api.Done{d[1], d[0], d[0]} }, 2, api.ErrTwice)
}

func TestWitnessAndSearch(t *testing.T) {
	l, d := example()
	i, e := order.Witness(l, d)
	result(t, i, e, 3, api.OK)
	x, e := order.Search(l, d)
	if !slices.Equal(x, []int{0, 1, 2}) || e != api.OK {
		t.Error(x, e)
	}
	d[2].At = 4
	i, e = order.Witness(l, d)
	result(t, i, e, 2, api.ErrDiffer)
	i, e = order.Scans(l, d)
	result(t, i, e, 2, api.ErrDiffer)
	if x, e = order.Search(l, d); !slices.Equal(x, []int{0, 1, 2}) || e != api.OK {
		t.Error(x, e)
	}
	d[2] = done(2, 1, 2, 3, api.Answer{Value: "x"})
	d[1] = done(1, 4, 9, 15, api.Answer{})
	if x, e = order.Search(l, d); x != nil || e != api.ErrNone {
		t.Error(x, e)
	}
	i, e = order.Witness(l, d[:2])
	result(t, i, e, 2, api.ErrState)
	i, e = order.Witness(nil, nil)
	result(t, i, e, 0, api.OK)
}

func TestWitnessKnowsWhatHadEnded(t *testing.T) {
	l := entries([]int{0, 1, 2}, create(1, 9, 9), put("a", "x"), api.Request{Deed: api.Tell, Handle: all})
	told := api.Answer{Stat: api.Stat{Keys: 1, Bytes: 2}}
	d := []api.Done{done(0, 0, 0, 0, api.Answer{}), done(1, 1, 2, 9, api.Answer{}), done(2, 3, 3, 3, told)}
	i, e := order.Witness(l, d)
	result(t, i, e, 3, api.OK)
	d[2] = done(2, 10, 10, 10, told)
	i, e = order.Witness(l, d)
	result(t, i, e, 2, api.ErrDiffer)
	d[2].Answer.Stat = api.Stat{Keys: 1, Bytes: 2, Puts: 1, Hits: 1, Load: 1i}
	i, e = order.Witness(l, d)
	result(t, i, e, 3, api.OK)
	if !order.Fits(l, d, []int{0, 1, 2}) {
		t.Error("statistics are not compared")
	}
	d[2].Answer.Stat = api.Stat{Gets: 5}
	if !order.Fits(l, d, []int{0, 1, 2}) {
		t.Error("statistics are not compared")
	}
}

func TestFits(t *testing.T) {
	l, d := example()
	for _, c := range []struct {
		order []int
		want  bool
	}{{[]int{0, 1, 2}, true}, {[]int{0, 2, 1}, false}, {[]int{1, 0, 2}, false}, {[]int{0, 1}, false}, {[]int{0, 1, 2, 2}, false}, {[]int{0, 1, 1}, false}, {[]int{0, 1, 3}, false}, {[]int{0, 1, -1}, false}, {nil, false}} {
		if order.Fits(l, d, c.order) != c.want {
			t.Error(c)
		}
	}
	l = append(l, api.Entry{Session: 5, Request: scan("", 3)})
	d = append(d, done(3, 20, 21, 22, api.Answer{}))
	if !order.Fits(l, d, []int{0, 1, 2}) || order.Fits(l, d, []int{0, 1, 2, 3}) {
		t.Error("scans do not belong to an order")
	}
	if x, e := order.Search(l, d); !slices.Equal(x, []int{0, 1, 2}) || e != api.OK {
		t.Error(x, e)
	}
	if !order.Fits(nil, nil, nil) {
		t.Error("nothing fits nothing")
	}
	// Both orders explain the answers, but one of the two ended before the other began.
	l = entries([]int{0, 1, 2}, create(1, 9, 9), get("a"), get("b"))
	d = []api.Done{done(0, 0, 0, 0, api.Answer{}), done(1, 3, 4, 5, failed(api.ErrNone)), done(2, 1, 1, 2, failed(api.ErrNone))}
	if order.Fits(l, d, []int{0, 1, 2}) || !order.Fits(l, d, []int{0, 2, 1}) {
		t.Error("real time")
	}
	if x, e := order.Search(l, d); !slices.Equal(x, []int{0, 2, 1}) || e != api.OK {
		t.Error(x, e)
	}
}

func TestSearchIsShort(t *testing.T) {
	var l []api.Entry
	var d []api.Done
	l = append(l, api.Entry{Request: create(1, 9, 99)})
	d = append(d, done(0, 0, 0, 0, api.Answer{}))
	for i := 1; i < 10; i++ {
		l = append(l, api.Entry{Session: i, Request: get("a")})
		d = append(d, done(i, i, i+100, i+200, failed(api.ErrNone)))
	}
	if x, e := order.Search(l, d); len(x) != 10 || e != api.OK {
		t.Error(x, e)
	}
	d[9].Answer.Err = api.ErrDiffer
	if x, e := order.Search(l, d); x != nil || e != api.ErrNone {
		t.Error("nothing explains it, whatever the order of the others", x, e)
	}
	l = append(l, api.Entry{Session: 10, Request: get("a")})
	d = append(d, done(10, 10, 110, 210, failed(api.ErrNone)))
	if x, e := order.Search(l, d); x != nil || e != api.ErrLong {
		t.Error(x, e)
	}
}

func TestScansExample(t *testing.T) {
	l := entries([]int{0, 0, 1, 2, 3}, create(1, 9, 99), put("b", "y"), scan("", 5), put("a", "x"), drop("b"))
	a, b := api.Pair{Key: "a", Value: "x"}, api.Pair{Key: "b", Value: "y"}
	with := func(dropped api.Answer, pairs ...api.Pair) []api.Done {
		return []api.Done{
			done(0, 0, 0, 0, api.Answer{}), done(1, 1, 1, 1, api.Answer{}), done(2, 2, 9, 20, api.Answer{Pairs: pairs}),
			done(3, 3, 4, 10, api.Answer{}), done(4, 5, 6, 11, dropped),
		}
	}
	for _, pairs := range [][]api.Pair{nil, {a}, {b}, {a, b}} {
		i, e := order.Scans(l, with(api.Answer{}, pairs...))
		result(t, i, e, 5, api.OK)
		want, at := api.OK, 5
		if !slices.Contains(pairs, b) {
			want, at = api.ErrDiffer, 2
		}
		i, e = order.Scans(l, with(failed(api.ErrBusy), pairs...))
		result(t, i, e, at, want)
	}
	for _, pairs := range [][]api.Pair{{b, a}, {a, a}, {a, b, {Key: "c"}, {Key: "d"}, {Key: "e"}, {Key: "f"}}} {
		i, e := order.Scans(l, with(api.Answer{}, pairs...))
		result(t, i, e, 2, api.ErrShape)
	}
	for _, pairs := range [][]api.Pair{{{Key: "a", Value: "y"}}, {a, {Key: "c"}}} {
		i, e := order.Scans(l, with(api.Answer{}, pairs...))
		result(t, i, e, 2, api.ErrNone)
	}
}

func TestScansFromAKeyAndWithALimit(t *testing.T) {
	l := entries([]int{0, 0, 0, 0, 1}, create(1, 9, 99), put("a", "1"), put("b", "2"), put("c", "3"), scan("b", 1))
	b, c := api.Pair{Key: "b", Value: "2"}, api.Pair{Key: "c", Value: "3"}
	try := func(r api.Request, pairs []api.Pair, want api.Errno) {
		t.Helper()
		l[4].Request = r
		d := []api.Done{done(0, 0, 0, 0, api.Answer{}), done(1, 1, 1, 1, api.Answer{}), done(2, 2, 2, 2, api.Answer{}), done(3, 3, 3, 3, api.Answer{}), done(4, 4, 5, 6, api.Answer{Pairs: pairs})}
		at := 4
		if want == api.OK {
			at = 5
		}
		i, e := order.Scans(l, d)
		result(t, i, e, at, want)
	}
	try(scan("b", 1), []api.Pair{b}, api.OK)
	try(scan("b", 1), []api.Pair{c}, api.ErrDiffer)
	try(scan("b", 1), nil, api.ErrDiffer)
	try(scan("b", 2), []api.Pair{b}, api.ErrDiffer)
	try(scan("b", 2), []api.Pair{b, c}, api.OK)
	try(scan("b", 1), []api.Pair{b, c}, api.ErrShape)
	try(scan("c", 3), []api.Pair{b, c}, api.ErrShape)
	try(scan("", 0), nil, api.OK)
	try(scan("d", 3), nil, api.OK)
}

func TestScansWhileValuesChange(t *testing.T) {
	// The value x is there from pick 1 on, y from 20 on, and x again from 30 on.
	l := entries([]int{0, 0, 1, 1, 1, 2}, create(1, 9, 99), put("a", "x"), put("a", "x"), put("a", "y"), put("a", "x"), scan("", 9))
	try := func(from, at int, pairs []api.Pair, want api.Errno) {
		t.Helper()
		d := []api.Done{done(0, 0, 0, 0, api.Answer{}), done(1, 1, 1, 1, api.Answer{}), done(2, 10, 10, 10, api.Answer{}), done(3, 20, 20, 20, api.Answer{}), done(4, 30, 30, 30, api.Answer{}), done(5, from, at, at+1, api.Answer{Pairs: pairs})}
		i, e := order.Scans(l, d)
		if at := 6; want == api.OK {
			result(t, i, e, at, want)
		} else {
			result(t, i, e, 5, want)
		}
	}
	x, y := []api.Pair{{Key: "a", Value: "x"}}, []api.Pair{{Key: "a", Value: "y"}}
	try(2, 15, x, api.OK)
	try(2, 15, nil, api.ErrDiffer) // the same value was put: the pair was there all the time
	try(2, 15, y, api.ErrNone)
	try(2, 25, nil, api.OK)
	try(2, 25, x, api.OK)
	try(2, 25, y, api.OK)
	try(19, 35, x, api.OK)
	try(19, 35, nil, api.OK)
	try(21, 25, x, api.ErrNone)
	try(21, 25, nil, api.ErrDiffer)
	try(21, 35, x, api.OK)
	try(21, 35, y, api.OK)
	try(31, 35, y, api.ErrNone)
	try(31, 35, nil, api.ErrDiffer)
}

func TestScansOfATenantThatCameAndWent(t *testing.T) {
	second := api.Handle{Tenant: 1, Gen: 2, Rights: 7}
	l := entries([]int{0, 0, 0, 0, 1}, create(1, 9, 99), put("a", "x"), api.Request{Deed: api.Remove, Tenant: 1}, create(1, 9, 99), api.Request{Deed: api.Scan, Handle: second, Limit: 9})
	for pairs, want := range map[string]api.Errno{"": api.OK, "x": api.OK, "y": api.ErrNone} {
		for _, from := range []int{5, 50} {
			d := []api.Done{done(0, 0, 0, 0, api.Answer{}), done(1, 10, 10, 10, api.Answer{}), done(2, 20, 20, 20, api.Answer{}), done(3, 30, 30, 30, api.Answer{}), done(4, from, 60, 70, api.Answer{})}
			if pairs != "" {
				d[4].Answer.Pairs = []api.Pair{{Key: "a", Value: pairs}}
			}
			want := want
			if from == 50 && pairs != "" {
				want = api.ErrNone
			}
			at := 4
			if want == api.OK {
				at = 5
			}
			i, e := order.Scans(l, d)
			result(t, i, e, at, want)
		}
	}
}

// TestRunsOfTheEngine checks that whatever an engine did is explained.
func TestRunsOfTheEngine(t *testing.T) {
	short := 0
	for seed := range 300 {
		sessions, budget, n := 1+seed%9, 2+seed*7%60, 10+seed%70
		if seed%5 == 0 {
			n = 7
		}
		s := sample.Script(seed, sessions, n, 200)
		s.Picks = append(s.Picks, make([]int, n*budget*8)...)
		d, errno := engine.Run(20+seed, sessions, budget, s)
		if errno != api.OK || len(d) != len(s.Entries) {
			t.Fatal(seed, errno, len(d), len(s.Entries))
		}
		if i, e := order.Witness(s.Entries, d); i != len(d) || e != api.OK {
			t.Fatal(seed, i, e, d[i], s.Entries[d[i].Entry])
		}
		if i, e := order.Scans(s.Entries, d); i != len(d) || e != api.OK {
			t.Fatal(seed, i, e, d[i], s.Entries[d[i].Entry])
		}
		rest := byAt(s.Entries, d)
		if !order.Fits(s.Entries, d, rest) {
			t.Fatal(seed, "the order of decisions does not fit")
		}
		if len(rest) > order.MaxSearch {
			continue
		}
		short++
		if x, e := order.Search(s.Entries, d); e != api.OK || !order.Fits(s.Entries, d, x) {
			t.Fatal(seed, x, e)
		}
	}
	if short < 20 {
		t.Error("too few short runs", short)
	}
}

// byAt returns the Dones but those of scans, in the order in which they were decided.
func byAt(l []api.Entry, d []api.Done) []int {
	var rest []int
	for i, x := range d {
		if l[x.Entry].Request.Deed != api.Scan {
			rest = append(rest, i)
		}
	}
	slices.SortFunc(rest, func(i, j int) int { return d[i].At - d[j].At })
	return rest
}
