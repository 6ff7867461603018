package table

import (
	"burgage/api"
	"burgage/handle"
	"burgage/purse"
	"burgage/put"
)

// gate decides whether a deed by a handle may proceed. A ticket of a purse is open if there is a purse.
type gate struct {
	table  *state
	handle api.Handle
	deed   api.Deed
	purse  *purse.Purse
	ticket int
	delta  put.Delta
}

// Reserve opens a reservation, instead of one that is open.
func (g *gate) Reserve(d put.Delta) api.Errno {
	g.Refund()
	if e := g.table.may(g.handle, g.deed); e != api.OK {
		return e
	}
	p := g.table.tenants[g.handle.Tenant].purse
	ticket, e := p.Reserve(above(d.Keys), above(d.Bytes))
	if e != api.OK {
		return e
	}
	g.purse, g.ticket, g.delta = p, ticket, d
	return api.OK
}

// Commit makes what is reserved a part of the balance, and pays back what has become less.
func (g *gate) Commit() {
	if g.purse == nil {
		return
	}
	g.purse.Commit(g.ticket)
	g.purse.Pay(below(g.delta.Keys), below(g.delta.Bytes))
	g.purse = nil
}

// Refund closes the reservation.
func (g *gate) Refund() {
	if g.purse == nil {
		return
	}
	g.purse.Refund(g.ticket)
	g.purse = nil
}

// above returns the part of a number above 0.
func above(n int) uint64 { return uint64(max(n, 0)) }

// below returns how far a number is below 0; negating the least one wraps round to what it should be.
func below(n int) uint64 { return uint64(-min(n, 0)) }

// shut is the gate of a table that does not exist.
type shut struct{}

func (shut) Reserve(put.Delta) api.Errno { return api.ErrRevoked }
func (shut) Commit()                     {}
func (shut) Refund()                     {}

// may returns what is said against a deed by a handle.
func (s *state) may(h api.Handle, d api.Deed) api.Errno {
	switch {
	case !s.good(h):
		return api.ErrRevoked
	case !handle.Allows(h, d):
		return api.ErrRights
	}
	return api.OK
}
