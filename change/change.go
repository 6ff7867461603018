// Package change is what putters and droppers do alike: they seek a code, lock places, ask a gate, write, and let go.
package change

import (
	"slices"

	"burgage/api"
	"burgage/find"
	"burgage/tree"
)

// Places of a machine; droppers have a further one.
const (
	Seek    = 0
	Lock    = 1
	Write   = 2
	Letgo   = 3
	Through = 4
)

// Machine changes what is below an anchor. P are its places, D says what comes more.
type Machine[P ~int, D any] struct {
	*find.Seeker
	tree    *tree.Tree
	anchor  api.Ref
	gate    Gate[D]
	claims  []find.Seen // what is to be locked, from which words
	held    []api.Ref
	died    []api.Ref
	err     api.Errno
	decided bool
}

// New returns a machine that seeks a code.
func New[P ~int, D any](t *tree.Tree, anchor api.Ref, code string, g Gate[D]) *Machine[P, D] {
	s, _ := find.New(t, anchor, code)
	return &Machine[P, D]{Seeker: s, tree: t, anchor: anchor, gate: Or(g)}
}

// Sought does a step of the seeker, and then, if it has found, what is passed.
func (m *Machine[P, D]) Sought(found func() P) P {
	switch m.Seeker.Step() {
	case find.Lost:
		m.decide(api.ErrRevoked)
		return Through
	case find.Found:
		return found()
	}
	return Seek
}

// Refuse decides an error that is true without a change, if the gate permits to tell it.
func (m *Machine[P, D]) Refuse(e api.Errno) P {
	if refused := Ask(m.gate); refused != api.OK {
		e = refused
	}
	m.decide(e)
	return Through
}

// Claim asks for further places.
func (m *Machine[P, D]) Claim(l ...find.Seen) P {
	m.claims = append(m.claims, l...)
	return Lock
}

// Lock locks the next place that was asked for.
func (m *Machine[P, D]) Lock() P {
	next := m.claims[len(m.held)]
	if !m.tree.Lock(next.Ref, next.Word) {
		return m.Over()
	}
	m.held = append(m.held, next.Ref)
	if len(m.held) < len(m.claims) {
		return Lock
	}
	return Write
}

// Over lets everything go and starts over.
func (m *Machine[P, D]) Over() P {
	m.back()
	m.Again()
	return Seek
}

// Write decides whether to write, and does it.
func (m *Machine[P, D]) Write(d D, write func() ([]api.Ref, api.Errno)) P {
	m.decide(m.written(d, write))
	return Letgo
}

func (m *Machine[P, D]) written(d D, write func() ([]api.Ref, api.Errno)) api.Errno {
	if _, state := m.tree.Begin(m.anchor); state == tree.Gone {
		return api.ErrRevoked
	}
	if e := m.gate.Reserve(d); e != api.OK {
		return e
	}
	died, e := write()
	if e != api.OK {
		m.gate.Refund()
		return e
	}
	m.died = died
	m.gate.Commit()
	return api.OK
}

// Letgo unlocks what is held.
func (m *Machine[P, D]) Letgo() P {
	if m.err != api.OK {
		m.back()
		return Through
	}
	for _, r := range m.held {
		if slices.Contains(m.died, r) {
			m.tree.Kill(r)
		} else {
			m.tree.Done(r)
		}
	}
	m.held = nil
	return Through
}

// Quit gives up, unless something is decided, and returns where a machine that was at a place is then.
func (m *Machine[P, D]) Quit(at P) P {
	switch at {
	case Through:
		return Through
	case Letgo:
		return m.Letgo()
	}
	m.back()
	m.decide(api.ErrBusy)
	return Through
}

// Decided returns what is decided, if something is.
func (m *Machine[P, D]) Decided() (api.Errno, bool) { return m.err, m.decided }

// Held returns what is held.
func (m *Machine[P, D]) Held() []api.Ref { return slices.Clone(m.held) }

func (m *Machine[P, D]) decide(e api.Errno) { m.err, m.decided = e, true }

// back unlocks what is held as if it had never been locked.
func (m *Machine[P, D]) back() {
	for _, r := range m.held {
		m.tree.Back(r)
	}
	m.held, m.claims = nil, nil
}
