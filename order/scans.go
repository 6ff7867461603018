package order

import (
	"slices"

	"burgage/api"
)

// owned is a pair of a tenant.
type owned struct {
	tenant int
	pair   api.Pair
}

// history tells since when each pair is in its book, and when it was there last before that.
type history struct {
	since map[owned]int
	ended map[owned]int
}

func (h *history) begin(x owned, pick int) { h.since[x] = pick }

func (h *history) end(x owned, pick int) {
	delete(h.since, x)
	h.ended[x] = pick
}

// turn does a step of a store that fits and writes down what changes with it.
func (h *history) turn(s *store, r api.Request, x api.Done) {
	switch {
	case r.Deed == api.Remove:
		h.remove(s, r, x)
	case isOperation(r.Deed):
		h.change(s, r, x)
	default:
		s.step(r, x.Answer, false)
	}
}

func (h *history) remove(s *store, r api.Request, x api.Done) {
	before := s.pairs(r.Tenant)
	s.step(r, x.Answer, false)
	for _, p := range before {
		h.end(owned{r.Tenant, p}, x.At)
	}
}

func (h *history) change(s *store, r api.Request, x api.Done) {
	before, was := s.value(r)
	s.step(r, x.Answer, false)
	after, is := s.value(r)
	if was == is && before == after {
		return
	}
	if was {
		h.end(owned{r.Handle.Tenant, before}, x.At)
	}
	if is {
		h.begin(owned{r.Handle.Tenant, after}, x.At)
	}
}

// judge returns what is wrong with the pairs of a scan that is decided now.
func (h *history) judge(s *store, r api.Request, x api.Done) api.Errno {
	l := x.Answer.Pairs
	switch {
	case len(l) > r.Limit || !rises(r.Key, l):
		return api.ErrShape
	case slices.ContainsFunc(l, func(p api.Pair) bool { return !h.was(owned{r.Handle.Tenant, p}, x.From) }):
		return api.ErrNone
	case slices.ContainsFunc(s.pairs(r.Handle.Tenant), h.missing(r, x)):
		return api.ErrDiffer
	}
	return api.OK
}

// rises reports whether the keys of pairs are strictly increasing and not below a first one.
func rises(first string, l []api.Pair) bool {
	for i, p := range l {
		if p.Key < first || i > 0 && p.Key <= l[i-1].Key {
			return false
		}
	}
	return true
}

// was reports whether a pair is in its book or was at a pick or later.
func (h *history) was(x owned, from int) bool {
	_, is := h.since[x]
	ended, ever := h.ended[x]
	return is || ever && ended > from
}

// missing returns what tells whether a pair that is in the book should be among those of a scan, but is not.
func (h *history) missing(r api.Request, x api.Done) func(api.Pair) bool {
	l := x.Answer.Pairs
	in := map[api.Pair]bool{}
	last := ""
	for _, p := range l {
		in[p], last = true, p.Key
	}
	return func(p api.Pair) bool {
		beyond := len(l) == r.Limit && (len(l) == 0 || p.Key > last)
		always := h.since[owned{r.Handle.Tenant, p}] <= x.From
		return always && p.Key >= r.Key && !beyond && !in[p]
	}
}

// Scans reports whether the answers of scans are right.
func Scans(l []api.Entry, d []api.Done) (int, api.Errno) {
	if i, e := Witness(l, d); e != api.OK {
		return i, e
	}
	h := &history{map[owned]int{}, map[owned]int{}}
	wrong := make([]api.Errno, len(d))
	s := &store{}
	for _, x := range events(d) {
		r, done := l[d[x.done].Entry].Request, d[x.done]
		if x.ends {
			continue
		}
		h.turn(s, r, done)
		if r.Deed == api.Scan && done.Answer.Err == api.OK {
			wrong[x.done] = h.judge(s, r, done)
		}
	}
	for i, e := range wrong {
		if e != api.OK {
			return i, e
		}
	}
	return len(d), api.OK
}
