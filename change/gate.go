package change

import "burgage/api"

// Gate gives permission; D says what comes more.
type Gate[D any] interface {
	Reserve(d D) api.Errno
	Commit()
	Refund()
}

// open is the gate of those who have none: it permits everything.
type open[D any] struct{}

func (open[D]) Reserve(D) api.Errno { return api.OK }
func (open[D]) Commit()             {}
func (open[D]) Refund()             {}

// Or returns a gate, or, if that is nil, one that permits everything.
func Or[D any](g Gate[D]) Gate[D] {
	if g == nil {
		return open[D]{}
	}
	return g
}

// Ask asks a gate, or none, whether something is permitted by which nothing comes more.
func Ask[D any](g Gate[D]) api.Errno {
	var nothing D
	e := Or(g).Reserve(nothing)
	if e == api.OK {
		Or(g).Refund()
	}
	return e
}
