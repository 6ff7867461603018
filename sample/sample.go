// Package sample makes scripts for tests: each number has its own, which is always the same.
package sample

import (
	"strings"

	"burgage/api"
)

// Source is a row of numbers that look like random ones.
type Source struct{ state uint64 }

// From returns the row of a number.
func From(seed int) *Source { return &Source{uint64(seed)*0x9e3779b97f4a7c15 + 1} }

// Below returns the next number, from 0 to n - 1.
func (s *Source) Below(n int) int {
	s.state += 0x9e3779b97f4a7c15
	x := s.state
	x = (x ^ x>>30) * 0xbf58476d1ce4e5b9
	x = (x ^ x>>27) * 0x94d049bb133111eb
	return int((x ^ x>>31) % uint64(n))
}

// One returns one of some texts.
func (s *Source) One(l ...string) string { return l[s.Below(len(l))] }

// Key returns a key, which is rarely too long.
func (s *Source) Key() string {
	if s.Below(60) == 0 {
		return strings.Repeat("k", 17)
	}
	var b strings.Builder
	for range s.Below(4) {
		b.WriteString(s.One("a", "b", "c", "\x00", "\xff"))
	}
	return b.String()
}

// Value returns a value, which is rarely too long.
func (s *Source) Value() string {
	if s.Below(60) == 0 {
		return strings.Repeat("v", 33)
	}
	return s.One("", "x", "y", "longer")
}

// Handle returns a handle that is often good.
func (s *Source) Handle() api.Handle {
	h := api.Handle{Tenant: 1 + s.Below(3), Gen: 1, Rights: api.All}
	switch s.Below(12) {
	case 0:
		h.Gen = uint32(s.Below(4))
	case 1:
		h.Rights = api.Rights(s.Below(9))
	case 2:
		h.Tenant = s.Below(20) - 1
	}
	return h
}

// Operation returns a request for an operation.
func (s *Source) Operation() api.Request {
	r := api.Request{Deed: api.Deed(1 + s.Below(5)), Handle: s.Handle(), Key: s.Key()}
	if s.Below(3) == 0 {
		r.Deed = api.Put
	}
	switch r.Deed {
	case api.Put:
		r.Value = s.Value()
	case api.Swap:
		r.Old, r.Value = s.Value(), s.Value()
	case api.Scan:
		r.Limit = s.Below(7)
		if s.Below(20) == 0 {
			r.Limit = -1
		}
	}
	return r
}

// Request returns a request: mostly for an operation.
func (s *Source) Request() api.Request {
	tenant := 1 + s.Below(3)
	if s.Below(20) == 0 {
		tenant = s.Below(20) - 1
	}
	switch s.Below(25) {
	case 0:
		return s.Create(tenant)
	case 1:
		return api.Request{Deed: api.Remove, Tenant: tenant}
	case 2:
		return api.Request{Deed: api.Revoke, Tenant: tenant}
	case 3:
		return api.Request{Deed: api.Issue, Tenant: tenant, Rights: api.Rights(s.Below(9))}
	case 4, 5:
		return api.Request{Deed: api.Tell, Handle: s.Handle()}
	}
	return s.Operation()
}

// Create returns a request for a tenant with a quota that is sometimes small.
func (s *Source) Create(tenant int) api.Request {
	quota := api.Limits{Keys: uint64(3 + s.Below(40)), Bytes: uint64(10 + s.Below(400))}
	return api.Request{Deed: api.Create, Tenant: tenant, Quota: quota}
}

// Script returns a script: session 0 creates three tenants first.
func Script(seed, sessions, entries, picks int) api.Script {
	s := From(seed)
	var x api.Script
	for tenant := 1; tenant <= 3; tenant++ {
		x.Entries = append(x.Entries, api.Entry{Request: s.Create(tenant)})
		x.Picks = append(x.Picks, 0)
	}
	for range entries {
		x.Entries = append(x.Entries, api.Entry{Session: s.Below(sessions), Request: s.Request()})
	}
	for range picks {
		x.Picks = append(x.Picks, s.Below(1000)-500)
	}
	return x
}
