package house

import (
	"burgage/api"
	"burgage/hide"
	"burgage/live"
	"burgage/op"
	"burgage/order"
)

// claim is what an audit examines: results of a script, beside the times that it has.
type claim struct {
	setup   Setup
	entries []api.Entry
	spans   []hide.Span
	done    []api.Done
}

// question is one that an audit asks: it finds the index of a result and an error, or none.
type question struct {
	what What
	ask  func(claim) (int, api.Errno)
}

// find returns the first finding.
func (c claim) find() Finding {
	for _, q := range [...]question{
		{Times, claim.times},
		{Order, func(c claim) (int, api.Errno) { return order.Witness(c.entries, c.done) }},
		{Scans, func(c claim) (int, api.Errno) { return order.Scans(c.entries, c.done) }},
		{Alone, claim.alone},
	} {
		if i, e := q.ask(c); e != api.OK {
			return Finding{q.what, i, e}
		}
	}
	return Finding{Index: len(c.done)}
}

// times finds a result that does not have the times of the script.
func (c claim) times() (int, api.Errno) {
	n := min(len(c.done), len(c.spans))
	for i, d := range c.done[:n] {
		if c.spans[i] != (hide.Span{Entry: d.Entry, From: d.From, To: d.To}) {
			return i, api.ErrShape
		}
	}
	if len(c.done) != len(c.spans) {
		return n, api.ErrShape
	}
	return n, api.OK
}

// alone finds an operation that was busy although nobody can have been in its way.
func (c claim) alone() (int, api.Errno) {
	for i, d := range c.done {
		r := c.entries[d.Entry].Request
		late := isOperation(r) && d.Answer.Err == api.ErrBusy && op.Picks(r, c.setup.Budget) > live.Bound(r, 0)
		if late && c.isAlone(i) {
			return i, api.ErrBusy
		}
	}
	return len(c.done), api.OK
}

// isAlone reports whether no other operation of the same owner was there at the same time.
func (c claim) isAlone(i int) bool {
	owner := hide.Owner(c.entries[c.done[i].Entry].Request)
	for j, d := range c.done {
		r := c.entries[d.Entry].Request
		meets := d.From <= c.done[i].To && d.To >= c.done[i].From
		if j != i && meets && isOperation(r) && hide.Owner(r) == owner {
			return false
		}
	}
	return true
}

func isOperation(r api.Request) bool { return r.Deed >= api.Get && r.Deed <= api.Scan }
