package house_test

import (
	"math"
	"reflect"
	"slices"
	"testing"

	"burgage/api"
	"burgage/engine"
	"burgage/hide"
	"burgage/house"
	"burgage/order"
	"burgage/result"
	"burgage/sample"
)

var all = api.Handle{Tenant: 1, Gen: 1, Rights: api.All}

func request(d api.Deed, key, value string) api.Request {
	return api.Request{Deed: d, Handle: all, Key: key, Value: value}
}

// example is the script of the first example of layer 26, and a setup for it.
func example() (house.Setup, api.Script) {
	create := api.Request{Deed: api.Create, Tenant: 1, Quota: api.Limits{Keys: 9, Bytes: 90}}
	issue := api.Request{Deed: api.Issue, Tenant: 1, Rights: api.All}
	return house.Setup{Slots: 40, Sessions: 2, Budget: 12}, api.Script{Entries: []api.Entry{{Request: create}, {Request: issue}, {Request: request(api.Put, "a", "x")}, {Session: 1, Request: request(api.Get, "a", "")}}}
}

// finished returns a finished script and what its run comes to.
func finished(t *testing.T, s house.Setup, x api.Script) (api.Script, house.Report) {
	t.Helper()
	x, e := house.Finish(s, x)
	if e != api.OK {
		t.Fatal(e)
	}
	r, e := house.Run(s, x)
	if e != api.OK || r.Left != 0 {
		t.Fatal(e, r.Left)
	}
	return x, r
}

func audit(t *testing.T, s house.Setup, x api.Script, d []api.Done, want house.Finding) {
	t.Helper()
	if f, e := house.Audit(s, x, d); f != want || e != api.OK {
		t.Error(f, e, "is not", want)
	}
}

func compare(t *testing.T, s house.Setup, x api.Script, d []api.Done, want int, errno api.Errno) {
	t.Helper()
	if n, e := house.Compare(s, x, d); n != want || e != errno {
		t.Error(n, e)
	}
}

func TestExampleOne(t *testing.T) {
	s, x := example()
	x, r := finished(t, s, x)
	if len(x.Picks) != 26 || slices.Max(x.Picks) != 0 || slices.Min(x.Picks) != 0 {
		t.Error(x.Picks)
	}
	want := house.Tenant{Number: 1, Stat: api.Stat{Keys: 1, Bytes: 2, Gets: 1, Puts: 1, Hits: 2, Load: 1 + 0.5i}, Pairs: []api.Pair{{Key: "a", Value: "x"}}}
	if len(r.Done) != 4 || !reflect.DeepEqual(r.Tenants, []house.Tenant{want}) || r.Picks != 26 || r.Room != 38 {
		t.Error(r)
	}
	audit(t, s, x, r.Done, house.Finding{What: house.Fine, Index: 4})
	compare(t, s, x, r.Done, 4, api.OK)
	if n, e := house.Spy(s, x, 1); n != 4 || e != api.OK {
		t.Error(n, e)
	}
}

func TestExampleTwo(t *testing.T) {
	s, x := example()
	x, r := finished(t, s, x)
	for _, c := range []struct {
		change func(*api.Done)
		want   house.Finding
	}{
		{func(d *api.Done) { d.At = 22 }, house.Finding{What: house.Fine, Index: 4}},
		{func(d *api.Done) { d.From = 13 }, house.Finding{What: house.Times, Index: 3, Err: api.ErrShape}},
		{func(d *api.Done) { d.Answer.Value = "y" }, house.Finding{What: house.Order, Index: 3, Err: api.ErrDiffer}},
	} {
		d := result.Copy(r.Done)
		c.change(&d[3])
		audit(t, s, x, d, c.want)
		compare(t, s, x, d, 3, api.ErrDiffer)
	}
}

func TestExampleThree(t *testing.T) {
	s, x := example()
	busy := func(d []api.Done) []api.Done {
		d = result.Copy(d)
		d[2].Answer = api.Answer{Err: api.ErrBusy}
		d[3].Answer = api.Answer{Err: api.ErrNone}
		return d
	}
	y, r := finished(t, s, x)
	audit(t, s, y, busy(r.Done), house.Finding{What: house.Fine, Index: 4})
	s.Budget = 30
	y, r = finished(t, s, x)
	audit(t, s, y, busy(r.Done), house.Finding{What: house.Alone, Index: 2, Err: api.ErrBusy})
	// Beside another operation of the tenant it may have been busy.
	y = x
	y.Picks = []int{0, 0, 0, 1}
	y, r = finished(t, s, y)
	audit(t, s, y, busy(r.Done), house.Finding{What: house.Fine, Index: 4})
	// One of another tenant is not in its way.
	y = x
	y.Entries = slices.Clone(x.Entries)
	y.Entries[3].Request.Handle.Tenant = 2
	y.Picks = []int{0, 0, 0, 1}
	y, r = finished(t, s, y)
	d := result.Copy(r.Done)
	d[2].Answer.Err = api.ErrBusy
	audit(t, s, y, d, house.Finding{What: house.Alone, Index: 2, Err: api.ErrBusy})
}

func TestTimes(t *testing.T) {
	s, x := example()
	x, r := finished(t, s, x)
	times := func(d []api.Done, index int) {
		t.Helper()
		audit(t, s, x, d, house.Finding{What: house.Times, Index: index, Err: api.ErrShape})
	}
	times(nil, 0)
	times(r.Done[:3], 3)
	times(append(slices.Clone(r.Done), r.Done[0]), 4)
	times([]api.Done{r.Done[1]}, 0)
	for i, change := range []func(*api.Done){func(d *api.Done) { d.Entry = -1 }, func(d *api.Done) { d.Entry = 99 }, func(d *api.Done) { d.From-- }, func(d *api.Done) { d.To++ }} {
		d := result.Copy(r.Done)
		change(&d[i])
		times(d, i)
	}
	compare(t, s, x, r.Done[:3], 3, api.ErrDiffer)
	compare(t, s, x, append(slices.Clone(r.Done), r.Done[0]), 4, api.ErrDiffer)
	compare(t, s, x, nil, 0, api.ErrDiffer)
}

func TestOrderAndScans(t *testing.T) {
	s, x := example()
	x.Entries = append(x.Entries, api.Entry{Session: 1, Request: api.Request{Deed: api.Scan, Handle: all, Limit: 3}})
	x, r := finished(t, s, x)
	d := result.Copy(r.Done)
	d[2].At = 30
	audit(t, s, x, d, house.Finding{What: house.Order, Index: 2, Err: api.ErrShape})
	for pairs, e := range map[string]api.Errno{"": api.ErrDiffer, "y": api.ErrNone} {
		d := result.Copy(r.Done)
		d[4].Answer.Pairs = nil
		if pairs != "" {
			d[4].Answer.Pairs = []api.Pair{{Key: "a", Value: pairs}}
		}
		audit(t, s, x, d, house.Finding{What: house.Scans, Index: 4, Err: e})
	}
}

func TestErrors(t *testing.T) {
	s, x := example()
	long, wrong := api.Script{Picks: make([]int, api.MaxPicks+1)}, api.Script{Entries: []api.Entry{{Session: 2}}}
	check := func(s house.Setup, x api.Script, want api.Errno) {
		t.Helper()
		if r, e := house.Run(s, x); !reflect.DeepEqual(r, house.Report{}) || e != want {
			t.Error(r, e)
		}
		if n, e := house.Compare(s, x, nil); n != 0 || e != want {
			t.Error(n, e)
		}
		if n, e := house.Spy(s, x, 1); n != 0 || e != want {
			t.Error(n, e)
		}
		if s.Slots == 0 {
			return
		}
		if y, e := house.Finish(s, x); !reflect.DeepEqual(y, api.Script{}) || e != want {
			t.Error(y, e)
		}
		if f, e := house.Audit(s, x, nil); f != (house.Finding{}) || e != want {
			t.Error(f, e)
		}
	}
	check(s, long, api.ErrLong)
	check(s, wrong, api.ErrRange)
	check(house.Setup{Slots: 0, Sessions: 2, Budget: 12}, x, api.ErrArg)
	check(house.Setup{Slots: 9, Sessions: 0, Budget: 12}, x, api.ErrArg)
	check(house.Setup{Slots: 9, Sessions: 2, Budget: 1}, x, api.ErrArg)
	if f, e := house.Audit(s, x, nil); f != (house.Finding{}) || e != api.ErrState {
		t.Error(f, e)
	}
	for _, tenant := range []int{0, 17, math.MaxInt} {
		if n, e := house.Spy(s, x, tenant); n != 0 || e != api.ErrArg {
			t.Error(n, e)
		}
	}
	if y, e := house.Finish(house.Setup{Slots: -5, Sessions: 2, Budget: 12}, x); len(y.Picks) != 26 || e != api.OK {
		t.Error("slots do not matter", e)
	}
}

func TestFinish(t *testing.T) {
	s, x := example()
	for n := range 40 {
		x.Picks = nil
		for i := range n {
			x.Picks = append(x.Picks, i*7-20)
		}
		y, e := house.Finish(s, x)
		if e != api.OK || len(y.Picks) != max(n, 26) || !slices.Equal(y.Picks[:n], x.Picks) || !slices.Equal(y.Entries, x.Entries) {
			t.Error(n, e, y.Picks)
		}
		spans, _ := hide.Times(s.Sessions, s.Budget, y)
		if len(spans) != 4 {
			t.Error(n, "not finished")
		}
		if z, e := house.Finish(s, y); !reflect.DeepEqual(z, y) || e != api.OK {
			t.Error(n, "it was finished")
		}
	}
	s.Budget = 4096
	x = api.Script{Entries: []api.Entry{{Request: api.Request{Deed: api.Scan, Limit: 15}}}}
	if y, e := house.Finish(s, x); len(y.Picks) != api.MaxPicks || e != api.OK {
		t.Error(len(y.Picks), e)
	}
	x.Entries = append(x.Entries, api.Entry{})
	if y, e := house.Finish(s, x); !reflect.DeepEqual(y, api.Script{}) || e != api.ErrLong {
		t.Error(len(y.Picks), e)
	}
	x.Entries[0].Request.Limit = 4096
	if y, e := house.Finish(s, x); !reflect.DeepEqual(y, api.Script{}) || e != api.ErrLong {
		t.Error(len(y.Picks), e)
	}
	if y, e := house.Finish(s, api.Script{}); len(y.Picks) != 0 || e != api.OK {
		t.Error(y, e)
	}
}

// TestEveryRunIsSound checks what follows for many runs.
func TestEveryRunIsSound(t *testing.T) {
	for seed := range 150 {
		s := house.Setup{Slots: 15 + seed*3, Sessions: 1 + seed%9, Budget: 2 + seed*11%150}
		x, r := finished(t, s, sample.Script(seed, s.Sessions, 60, 300))
		audit(t, s, x, r.Done, house.Finding{What: house.Fine, Index: len(x.Entries)})
		compare(t, s, x, r.Done, len(x.Entries), api.OK)
		stored(t, x, r)
		text, e := house.Format(r)
		if e != api.OK {
			t.Fatal(seed, e)
		}
		back, i, e := house.Parse(text)
		again, _ := house.Format(back)
		if e != api.OK || i != 0 || again != text {
			t.Fatal(seed, i, e)
		}
		full := slices.ContainsFunc(r.Done, func(d api.Done) bool { return d.Answer.Err == api.ErrFull })
		for tenant := 1; tenant <= 3 && !full; tenant++ {
			if n, e := house.Spy(s, x, tenant); e != api.OK && e != api.ErrFull {
				t.Error(seed, tenant, n, e)
			}
		}
	}
}

// stored checks that a report has what a simple store would have.
func stored(t *testing.T, x api.Script, r house.Report) {
	t.Helper()
	d := slices.Clone(r.Done)
	slices.SortFunc(d, func(a, b api.Done) int { return a.At - b.At })
	m := order.New()
	for _, x2 := range d {
		if e := x2.Answer.Err; e != api.ErrBusy && e != api.ErrFull {
			m.Do(x.Entries[x2.Entry].Request)
		}
	}
	if len(m.Tenants()) != len(r.Tenants) {
		t.Fatal(m.Tenants())
	}
	for i, n := range m.Tenants() {
		if y := r.Tenants[i]; y.Number != n || !slices.Equal(y.Pairs, m.Pairs(n)) || y.Stat.Keys != uint64(len(y.Pairs)) {
			t.Error(n, y, m.Pairs(n))
		}
	}
}

func TestFalseClaimsAreFound(t *testing.T) {
	found := 0
	for seed := range 8 {
		s := house.Setup{Slots: 300, Sessions: 3, Budget: 25}
		x, r := finished(t, s, sample.Script(seed, 3, 40, 200))
		for i, d := range r.Done {
			for _, change := range []func(*api.Done) bool{
				func(d *api.Done) bool { d.From++; return true },
				func(d *api.Done) bool { d.To--; return true },
				func(d *api.Done) bool {
					d.Answer.Value += "z"
					return d.Answer.Err == api.OK && x.Entries[d.Entry].Request.Deed == api.Get
				},
				func(d *api.Done) bool { d.Answer.Handle.Gen++; return d.Answer.Handle.Tenant > 0 },
			} {
				l := result.Copy(r.Done)
				l[i] = d
				if !change(&l[i]) {
					continue
				}
				found++
				if f, e := house.Audit(s, x, l); f.What == house.Fine || e != api.OK {
					t.Error(seed, i, f, e)
				}
				compare(t, s, x, l, i, api.ErrDiffer)
			}
		}
	}
	if found < 500 {
		t.Error(found)
	}
}

func TestRunIsThatOfTheEngine(t *testing.T) {
	s, x := example()
	x.Picks = []int{0, 1, 0, 1, 0}
	r, e := house.Run(s, x)
	d, _ := engine.Run(s.Slots, s.Sessions, s.Budget, x)
	if n, differ := result.Differ(r.Done, d); differ || e != api.OK || r.Left != 4-len(d) || r.Picks != 5 || r.Room != 39 {
		t.Error(n, e, r)
	}
}
