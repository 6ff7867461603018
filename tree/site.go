package tree

import (
	"slices"

	"burgage/api"
	"burgage/node"
	"burgage/path"
	"burgage/spot"
)

// site is the spot of a code with the places around it, where it can be changed.
type site struct {
	*places
	Spot
	code string
}

// seek goes down from an anchor that lives.
func (p *places) seek(anchor api.Ref, code string) *site {
	s := &site{places: p, code: code}
	r := anchor
down:
	s.Way = append(s.Way, r)
	step := spot.Of(p.node(r), code, s.Depth)
	if step.Sort == spot.Kid {
		r, s.Depth = step.Kid, step.Depth
		goto down
	}
	s.What, s.At = What(step.Sort), step.At
	return s
}

// up returns the place so many above the last one of the way.
func (s *site) up(n int) api.Ref { return s.Way[len(s.Way)-1-n] }

func (s *site) last() api.Node { return s.node(s.up(0)) }

// shut reports whether another kid needs a node of a greater Kind.
func (s *site) shut() bool { return len(s.Way) > 1 && node.Full(s.last()) }

// lone reports whether the node above the leaf goes, too, because only one kid is left.
func (s *site) lone() bool { return len(s.Way) > 2 && len(s.node(s.up(1)).Kids) == 2 }

// left is the kid that is left, and its byte, when the leaf goes.
func (s *site) left() (byte, api.Ref) {
	b, r, _ := node.Rest(s.node(s.up(1)), s.code[s.Depth-1])
	return b, r
}

// planPut returns what putting the code asks for.
func (s *site) planPut() Change {
	return map[What]func(*site) Change{
		Here:  (*site).planHere,
		Bare:  (*site).planBare,
		Split: (*site).planFork,
		Other: (*site).planFork,
	}[s.What](s)
}

func (s *site) planHere() Change { return Change{Locks: []api.Ref{s.up(0)}} }

func (s *site) planBare() Change {
	if s.shut() {
		return Change{Locks: []api.Ref{s.up(1), s.up(0)}, Dies: []api.Ref{s.up(0)}, Room: 2}
	}
	return Change{Locks: []api.Ref{s.up(0)}, Room: 1}
}

func (s *site) planFork() Change { return Change{Locks: []api.Ref{s.up(1), s.up(0)}, Room: 2} }

// planDrop returns what dropping the code asks for.
func (s *site) planDrop() Change {
	leaf, above := s.up(0), s.up(1)
	if !s.lone() {
		return Change{Locks: []api.Ref{above, leaf}, Dies: []api.Ref{leaf}}
	}
	c := Change{Locks: []api.Ref{s.up(2), above, leaf}, Dies: []api.Ref{leaf, above}}
	if _, left := s.left(); s.node(left).Kind != api.Leaf {
		c.Locks = append(c.Locks, left)
	}
	return c
}

// put puts the code with a value; there is room for it.
func (s *site) put(value string) {
	map[What]func(*site, api.Node){
		Here:  (*site).putHere,
		Bare:  (*site).putBare,
		Split: (*site).putSplit,
		Other: (*site).putOther,
	}[s.What](s, api.Node{Kind: api.Leaf, Code: s.code, Value: value})
}

func (s *site) putHere(leaf api.Node) { s.set(s.up(0), leaf) }

func (s *site) putBare(leaf api.Node) {
	last, b, shut := s.last(), byte(s.At), s.shut()
	more, _ := node.Add(last, b, s.add(leaf), !shut)
	if shut {
		s.become(s.add(more))
		return
	}
	s.set(s.up(0), more)
}

func (s *site) putSplit(leaf api.Node) {
	n := s.last()
	head, b, tail, _ := path.Cut(n.Path, s.At)
	n.Path = tail
	s.set(s.up(0), n)
	s.fork(head, b, leaf)
}

func (s *site) putOther(leaf api.Node) {
	head, b, _, _ := path.Cut(path.Rest(s.last().Code, s.Depth), s.At)
	s.fork(head, b, leaf)
}

// fork puts a node above the last one: it stands at one byte, and a new leaf at the byte of the code.
func (s *site) fork(head string, b byte, leaf api.Node) {
	// Only an anchor may have less than two kids while they are added.
	n, _ := node.Add(api.Node{Kind: api.Node256}, b, s.up(0), true)
	n, _ = node.Add(n, s.code[s.Depth+s.At], s.add(leaf), false)
	n.Path = head
	s.become(s.add(n))
}

// become makes a place the kid of the node above in the stead of the last one.
func (s *site) become(r api.Ref) { s.turn(s.up(1), s.code[s.Depth-1], r) }

// drop drops the code, which is here.
func (s *site) drop() {
	if s.lone() {
		s.shrink()
		return
	}
	above := s.up(1)
	n, _ := node.Cut(s.node(above), s.code[s.Depth-1], s.isAnchor(above))
	s.set(above, n)
}

// shrink puts the kid that is left in the stead of the node above the leaf.
func (s *site) shrink() {
	above := s.node(s.up(1))
	b, left := s.left()
	if n := s.node(left); n.Kind != api.Leaf {
		n.Path = path.Join(above.Path, b, n.Path)
		s.set(left, n)
	}
	depth := s.Depth - 1 - len(above.Path)
	s.turn(s.up(2), s.code[depth-1], left)
}

// spot returns the spot in memory of its own.
func (s *site) spot() Spot {
	return Spot{s.What, slices.Clone(s.Way), s.At, s.Depth}
}
