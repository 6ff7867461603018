package hide

import (
	"burgage/api"
	"burgage/op"
)

// plan are the entries of each session that have not ended, with how many picks each still takes.
type plan struct {
	queues [][]int
	left   []int
	from   []int
	spans  []Span
}

func newPlan(sessions, budget int, l []api.Entry) *plan {
	p := &plan{queues: make([][]int, sessions), left: make([]int, len(l)), from: make([]int, len(l))}
	for i, x := range l {
		p.queues[x.Session] = append(p.queues[x.Session], i)
		// What is no operation takes one pick.
		p.left[i] = max(1, op.Picks(x.Request, budget))
		p.from[i] = -1
	}
	return p
}

// count returns how many sessions can go on.
func (p *plan) count() int {
	n := 0
	for s := range len(p.queues) {
		if len(p.queues[s]) > 0 {
			n++
		}
	}
	return n
}

// nth returns what finds the session at a position among those that can go on.
func (p *plan) nth(position int) func() int {
	return func() int {
		left := position
		for s := range len(p.queues) {
			if len(p.queues[s]) == 0 {
				continue
			}
			if left == 0 {
				return s
			}
			left--
		}
		return -1
	}
}

// pick does the pick of a number, which is a pick of its own number among all.
func (p *plan) pick(now, number int) {
	n := p.count()
	if n == 0 {
		return
	}
	session := p.nth((number%n + n) % n)()
	own := p.queues[session][0]
	if p.from[own] < 0 {
		p.from[own] = now
	}
	p.left[own]--
	if p.left[own] == 0 {
		p.queues[session] = p.queues[session][1:]
		p.spans = append(p.spans, Span{own, p.from[own], now})
	}
}

// errno returns what is wrong with a script and the sessions and the budget for it.
func errno(sessions, budget int, s api.Script) api.Errno {
	switch {
	case len(s.Entries) > api.MaxEntries || len(s.Picks) > api.MaxPicks:
		return api.ErrLong
	case sessions < 1 || sessions > api.MaxSessions || budget < 2 || budget > api.MaxBudget:
		return api.ErrArg
	case len(kept(s.Entries, func(x api.Entry) bool { return x.Session < 0 || x.Session >= sessions })) > 0:
		return api.ErrRange
	}
	return api.OK
}

// Times returns when entries begin and end.
func Times(sessions, budget int, s api.Script) ([]Span, api.Errno) {
	if e := errno(sessions, budget, s); e != api.OK {
		return nil, e
	}
	p := newPlan(sessions, budget, s.Entries)
	for now, number := range s.Picks {
		p.pick(now, number)
	}
	return p.spans, api.OK
}
