package order_test

import (
	"slices"
	"testing"

	"burgage/api"
	"burgage/engine"
	"burgage/order"
	"burgage/sample"
)

// scansByStates does what Scans promises by going through the states of all picks.
func scansByStates(l []api.Entry, d []api.Done) (int, api.Errno) {
	if i, e := order.Witness(l, d); e != api.OK {
		return i, e
	}
	by := slices.Clone(d)
	slices.SortFunc(by, func(a, b api.Done) int { return a.At - b.At })
	for i, x := range d {
		r := l[x.Entry].Request
		if r.Deed != api.Scan || x.Answer.Err != api.OK {
			continue
		}
		// The states from From to At: the one at From, and one after each decision up to At.
		var states [][]api.Pair
		m := order.New()
		for _, y := range by {
			if y.At > x.From && len(states) == 0 {
				states = append(states, m.Pairs(r.Handle.Tenant))
			}
			if y.At > x.At {
				break
			}
			m.Step(l[y.Entry].Request, withoutStat(y.Answer, l[y.Entry].Request, m))
			if y.At >= x.From {
				states = append(states, m.Pairs(r.Handle.Tenant))
			}
		}
		if e := judge(r, x.Answer.Pairs, states); e != api.OK {
			return i, e
		}
	}
	return len(d), api.OK
}

// withoutStat returns an answer with the statistics of a model, which has not been told what ended.
func withoutStat(a api.Answer, r api.Request, m *order.Model) api.Answer {
	if r.Deed == api.Tell && a.Err == api.OK {
		a.Stat = m.Copy().Do(r).Stat
	}
	return a
}

func judge(r api.Request, pairs []api.Pair, states [][]api.Pair) api.Errno {
	if len(pairs) > r.Limit {
		return api.ErrShape
	}
	for i, p := range pairs {
		if p.Key < r.Key || i > 0 && p.Key <= pairs[i-1].Key {
			return api.ErrShape
		}
	}
	for _, p := range pairs {
		if !slices.ContainsFunc(states, func(s []api.Pair) bool { return slices.Contains(s, p) }) {
			return api.ErrNone
		}
	}
	for _, p := range states[0] {
		always := !slices.ContainsFunc(states, func(s []api.Pair) bool { return !slices.Contains(s, p) })
		beyond := len(pairs) == r.Limit && !slices.ContainsFunc(pairs, func(q api.Pair) bool { return q.Key >= p.Key })
		if always && p.Key >= r.Key && !slices.Contains(pairs, p) && !beyond {
			return api.ErrDiffer
		}
	}
	return api.OK
}

func TestScansByStates(t *testing.T) {
	wrong := 0
	for seed := range 250 {
		s := sample.Script(seed, 4, 50, 200)
		for i := range s.Entries {
			if i%3 == 1 && s.Entries[i].Request.Deed < api.Tell {
				s.Entries[i].Request.Deed = api.Scan
				s.Entries[i].Request.Limit = i % 7
			}
		}
		s.Picks = append(s.Picks, make([]int, 10000)...)
		d, _ := engine.Run(400, 4, 20, s)
		r := sample.From(seed)
		for range 10 {
			c := slices.Clone(d)
			i := r.Below(len(c))
			change(r, &c[i], s.Entries)
			n, e := order.Scans(s.Entries, c)
			wantN, wantE := scansByStates(s.Entries, c)
			if n != wantN || e != wantE {
				t.Fatal(seed, n, e, "is not", wantN, wantE, c[i])
			}
			if e == api.ErrShape || e == api.ErrNone || e == api.ErrDiffer {
				wrong++
			}
		}
	}
	if wrong < 300 {
		t.Error("too few wrong scans", wrong)
	}
}

// change makes a result another one, mostly one of a scan.
func change(r *sample.Source, d *api.Done, l []api.Entry) {
	pairs := slices.Clone(d.Answer.Pairs)
	switch r.Below(5) {
	case 0:
		d.From = max(0, d.From-r.Below(30))
	case 1:
		pairs = append(pairs, api.Pair{Key: r.Key(), Value: r.Value()})
	case 2:
		if len(pairs) > 0 {
			i := r.Below(len(pairs))
			pairs = slices.Delete(pairs, i, i+1)
		}
	case 3:
		if len(pairs) > 0 {
			pairs[r.Below(len(pairs))].Value = r.Value()
		}
	}
	d.Answer.Pairs = pairs
}

// permutations calls do for all orders of some indices, in lexicographic order, until it returns true.
func permutations(head, rest []int, do func([]int) bool) bool {
	if len(rest) == 0 {
		return do(head)
	}
	for k, i := range rest {
		left := slices.Delete(slices.Clone(rest), k, k+1)
		if permutations(append(slices.Clone(head), i), left, do) {
			return true
		}
	}
	return false
}

func TestSearchByAllOrders(t *testing.T) {
	none, some := 0, 0
	for seed := range 400 {
		r := sample.From(seed)
		l := []api.Entry{{Session: 0, Request: create(1, 2, 20)}}
		keys := []string{"a", "b"}
		for i := range 5 {
			q := r.Operation()
			q.Handle, q.Key = all, keys[r.Below(2)]
			l = append(l, api.Entry{Session: 1 + i, Request: q})
		}
		s := api.Script{Entries: l, Picks: []int{0}}
		for range 60 {
			s.Picks = append(s.Picks, r.Below(100))
		}
		s.Picks = append(s.Picks, make([]int, 1000)...)
		d, _ := engine.Run(50, 6, 15, s)
		i := r.Below(len(d))
		if r.Below(2) == 0 {
			d[i].Answer.Err = api.Errno(r.Below(14))
		} else {
			d[i].Answer.Value = r.Value()
		}
		var rest []int
		for i, x := range d {
			if l[x.Entry].Request.Deed != api.Scan {
				rest = append(rest, i)
			}
		}
		var want []int
		found := permutations(nil, rest, func(o []int) bool {
			want = o
			return order.Fits(l, d, o)
		})
		got, e := order.Search(l, d)
		if found && (e != api.OK || !slices.Equal(got, want)) || !found && (e != api.ErrNone || got != nil) {
			t.Fatal(seed, got, e, found, want)
		}
		if found {
			some++
		} else {
			none++
		}
	}
	if none < 50 || some < 50 {
		t.Error(none, some)
	}
}
