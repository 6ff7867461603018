package engine

import (
	"burgage/api"
	"burgage/op"
	"burgage/stat"
)

// job does a request.
type job struct {
	*core
	request api.Request
	session int
	does    func(*job) bool
	op      *op.Op // of an operation that has begun
	began   bool
	decided bool
	done    api.Done
	effort  Effort
	taken   int // locks that anybody had taken before it began
	own     int // locks that it has taken itself
}

// doing returns what is done in a pick of a deed; it reports whether that was the last one.
func doing(d api.Deed) func(*job) bool {
	do, is := map[api.Deed]func(*job) bool{
		api.Get:    (*job).operate,
		api.Put:    (*job).operate,
		api.Delete: (*job).operate,
		api.Swap:   (*job).operate,
		api.Scan:   (*job).operate,
		api.Tell:   (*job).tell,
		api.Create: (*job).create,
		api.Remove: (*job).remove,
		api.Issue:  (*job).issue,
		api.Revoke: (*job).revoke,
	}[d]
	if !is {
		return (*job).refuse
	}
	return do
}

// Pick does a pick of the job, and reports whether it has ended.
func (j *job) Pick() bool {
	if !j.began {
		j.began, j.done.From, j.taken = true, j.now, j.tree.Taken()
	}
	counts := !j.decided
	if counts && j.tree.Held() > len(j.op.Holds()) {
		j.effort.Met++
	}
	before := j.tree.Taken()
	ended := j.does(j)
	j.own += j.tree.Taken() - before
	if counts {
		j.effort.Picks++
		j.effort.Tries = j.op.Tries()
		j.effort.Taken = j.tree.Taken() - j.taken - j.own
	}
	if ended {
		j.end()
	}
	return ended
}

// operate does a pick of the op of an operation.
func (j *job) operate() bool {
	if j.op == nil {
		anchor, _ := j.Anchor(j.request.Handle.Tenant)
		gate := j.Gate(j.request.Handle, j.request.Deed)
		j.op, _ = op.New(j.tree, anchor, j.request, j.budget, gate)
	}
	ended := j.op.Pick()
	if !j.decided && j.op.At() >= 0 {
		j.decided, j.done.At = true, j.now
	}
	j.done.Answer, _ = j.op.Answer()
	return ended
}

// answer decides in the only pick of a job.
func (j *job) answer(a api.Answer) bool {
	j.decided, j.done.At, j.done.Answer = true, j.now, a
	return true
}

func (j *job) refuse() bool { return j.answer(api.Answer{Err: api.ErrArg}) }

func (j *job) tell() bool {
	h := j.request.Handle
	if e := j.May(h, j.request.Deed); e != api.OK {
		return j.answer(api.Answer{Err: e})
	}
	s, _ := j.stat(h.Tenant)
	return j.answer(api.Answer{Stat: s})
}

func (j *job) create() bool {
	e := j.Create(j.request.Tenant, j.request.Quota)
	if e == api.OK {
		j.stats[j.request.Tenant] = api.Stat{}
	}
	return j.answer(api.Answer{Err: e})
}

func (j *job) remove() bool {
	return j.answer(api.Answer{Err: j.Remove(j.request.Tenant)})
}

func (j *job) issue() bool {
	h, e := j.Issue(j.request.Tenant, j.request.Rights)
	return j.answer(api.Answer{Err: e, Handle: h})
}

func (j *job) revoke() bool {
	return j.answer(api.Answer{Err: j.Revoke(j.request.Tenant)})
}

// end records the event of a job that has ended.
func (j *job) end() {
	j.op = nil // its answer and its effort are all that is still asked for
	j.done.To = j.now
	j.ended = append(j.ended, j.done)
	h := j.request.Handle
	if !j.Good(h) {
		return
	}
	if s, is := stat.Next(j.stats[h.Tenant], j.request.Deed, j.done.Answer); is {
		j.stats[h.Tenant] = s
	}
}
