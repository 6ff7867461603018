package order

import (
	"slices"
	"strconv"
	"strings"

	"burgage/api"
	"burgage/book"
	"burgage/handle"
	"burgage/stat"
)

// tenant is a tenant of a model: it exists if it has a book.
type tenant struct {
	gen   uint32
	quota api.Limits
	book  *book.Book
	stat  api.Stat
}

func (t *tenant) exists() bool { return t.book != nil }

// store are the tenants of a model, by their numbers.
type store struct {
	tenants [api.MaxTenants + 1]tenant
}

// deeds returns what each deed does with a store.
func deeds() map[api.Deed]func(*store, api.Request) api.Answer {
	return map[api.Deed]func(*store, api.Request) api.Answer{
		api.Get:    (*store).operate,
		api.Put:    (*store).operate,
		api.Delete: (*store).operate,
		api.Swap:   (*store).operate,
		api.Scan:   (*store).operate,
		api.Tell:   (*store).tell,
		api.Create: (*store).create,
		api.Remove: (*store).remove,
		api.Issue:  (*store).issue,
		api.Revoke: (*store).revoke,
	}
}

func isOperation(d api.Deed) bool { return d >= api.Get && d <= api.Scan }

func failed(e api.Errno) api.Answer { return api.Answer{Err: e} }

// do does a request.
func (s *store) do(r api.Request) api.Answer {
	do, is := deeds()[r.Deed]
	if !is {
		return failed(api.ErrArg)
	}
	return do(s, r)
}

// named returns the tenant with a number, if there can be one.
func (s *store) named(n int) (*tenant, bool) {
	if n < 1 || n > api.MaxTenants {
		return nil, false
	}
	return &s.tenants[n], true
}

func (s *store) good(h api.Handle) bool {
	if !handle.Right(h) {
		return false
	}
	t := &s.tenants[h.Tenant]
	return t.exists() && t.gen == h.Gen
}

// may returns what is said against a deed by a handle.
func (s *store) may(r api.Request) api.Errno {
	switch {
	case !s.good(r.Handle):
		return api.ErrRevoked
	case !handle.Allows(r.Handle, r.Deed):
		return api.ErrRights
	}
	return api.OK
}

// fits reports whether the arguments of an operation are valid.
func fits(r api.Request) bool {
	if len(r.Key) > api.MaxKey || len(r.Value) > api.MaxValue || len(r.Old) > api.MaxValue {
		return false
	}
	return r.Deed != api.Scan || r.Limit >= 0 && r.Limit <= api.MaxScan
}

func (s *store) operate(r api.Request) api.Answer {
	if !fits(r) {
		return failed(api.ErrArg)
	}
	if e := s.may(r); e != api.OK {
		return failed(e)
	}
	var a api.Answer
	b := s.tenants[r.Handle.Tenant].book
	switch r.Deed {
	case api.Get:
		a.Value, a.Err = b.Get(r.Key)
	case api.Put:
		a.Err = b.Put(r.Key, r.Value)
	case api.Delete:
		a.Err = b.Delete(r.Key)
	case api.Swap:
		a.Err = b.Swap(r.Key, r.Old, r.Value)
	case api.Scan:
		a.Pairs, a.Err = b.Scan(r.Key, r.Limit)
	}
	return a
}

func (s *store) tell(r api.Request) api.Answer {
	if e := s.may(r); e != api.OK {
		return failed(e)
	}
	t := &s.tenants[r.Handle.Tenant]
	has := api.Limits{Keys: t.book.Keys(), Bytes: t.book.Bytes()}
	return api.Answer{Stat: stat.With(t.stat, has)}
}

func (s *store) create(r api.Request) api.Answer {
	t, is := s.named(r.Tenant)
	switch {
	case !is:
		return failed(api.ErrArg)
	case t.exists():
		return failed(api.ErrTwice)
	}
	*t = tenant{gen: t.gen + 1, quota: r.Quota, book: book.New(r.Quota)}
	return api.Answer{}
}

// existing returns a tenant that a request names, or what is wrong with it.
func (s *store) existing(r api.Request) (*tenant, api.Errno) {
	t, is := s.named(r.Tenant)
	switch {
	case !is:
		return nil, api.ErrArg
	case !t.exists():
		return nil, api.ErrNone
	}
	return t, api.OK
}

func (s *store) remove(r api.Request) api.Answer {
	t, e := s.existing(r)
	if e == api.OK {
		*t = tenant{gen: t.gen}
	}
	return failed(e)
}

func (s *store) revoke(r api.Request) api.Answer {
	t, e := s.existing(r)
	if e == api.OK {
		t.gen++
	}
	return failed(e)
}

func (s *store) issue(r api.Request) api.Answer {
	if r.Rights < 1 || r.Rights > api.All {
		return failed(api.ErrArg)
	}
	t, e := s.existing(r)
	if e != api.OK {
		return failed(e)
	}
	return api.Answer{Handle: api.Handle{Tenant: r.Tenant, Gen: t.gen, Rights: r.Rights}}
}

// undo returns what makes a request undone that is done next.
func (s *store) undo(r api.Request) func() {
	if !isOperation(r.Deed) {
		t, is := s.named(r.Tenant)
		if !is {
			return func() {}
		}
		before := *t
		return func() { *t = before }
	}
	if !s.good(r.Handle) {
		return func() {}
	}
	b := s.tenants[r.Handle.Tenant].book
	value, e := b.Get(r.Key)
	return func() {
		if e == api.OK {
			b.Put(r.Key, value)
		} else {
			b.Delete(r.Key)
		}
	}
}

func (s *store) copied() *store {
	c := *s
	for i := range c.tenants {
		c.tenants[i].book = c.tenants[i].book.Copy()
	}
	return &c
}

// text returns a text that two stores share only if no answer but a Stat tells them apart.
func (s *store) text() string {
	var b strings.Builder
	write := func(n uint64) {
		b.WriteString(strconv.FormatUint(n, 10))
		b.WriteByte(' ')
	}
	for _, t := range s.tenants {
		write(uint64(t.gen))
		if !t.exists() {
			continue
		}
		write(t.quota.Keys)
		write(t.quota.Bytes)
		write(t.book.Keys())
		for key, value := range t.book.All() {
			write(uint64(len(key)))
			write(uint64(len(value)))
			b.WriteString(key + value)
		}
	}
	return b.String()
}

// same reports whether two answers are equal, but for their Pairs.
func same(a, b api.Answer) bool {
	return a.Err == b.Err && a.Value == b.Value && a.Handle == b.Handle && a.Stat == b.Stat
}

// only reports whether an answer has nothing but an error.
func only(a api.Answer, e api.Errno) bool {
	return len(a.Pairs) == 0 && same(a, failed(e))
}

// step does a request if an answer fits it; told says whether its Stat counts.
func (s *store) step(r api.Request, a api.Answer, told bool) bool {
	undo, had := s.undo(r), s.has(r)
	own := s.do(r)
	if !told {
		a.Stat, own.Stat = api.Stat{}, api.Stat{}
	}
	if same(a, own) && (r.Deed == api.Scan && own.Err == api.OK || slices.Equal(a.Pairs, own.Pairs)) {
		return true
	}
	undo()
	return excused(r, a, own, had)
}

// excused reports whether an answer fits by which nothing is done, instead of the model's own one.
func excused(r api.Request, a, own api.Answer, had bool) bool {
	switch {
	case only(a, api.ErrBusy):
		return isOperation(r.Deed) && own.Err != api.ErrArg
	case only(a, api.ErrFull):
		return own.Err == api.OK && (r.Deed == api.Create || r.Deed == api.Put && !had)
	}
	return false
}

// value returns what is under the key of a request, in the book of the tenant of its handle.
func (s *store) value(r api.Request) (api.Pair, bool) {
	if !s.good(r.Handle) {
		return api.Pair{}, false
	}
	value, e := s.tenants[r.Handle.Tenant].book.Get(r.Key)
	return api.Pair{Key: r.Key, Value: value}, e == api.OK
}

func (s *store) has(r api.Request) bool {
	_, is := s.value(r)
	return is
}

// pairs returns what is in the book of a tenant.
func (s *store) pairs(n int) []api.Pair {
	t, is := s.named(n)
	if !is {
		return nil
	}
	var l []api.Pair
	for key, value := range t.book.All() {
		l = append(l, api.Pair{Key: key, Value: value})
	}
	return l
}

// ended records the event of a request.
func (s *store) ended(r api.Request, a api.Answer) {
	if !s.good(r.Handle) {
		return
	}
	t := &s.tenants[r.Handle.Tenant]
	if next, is := stat.Next(t.stat, r.Deed, a); is {
		t.stat = next
	}
}
