// Package descent is a way down a tree that is gone step by step, while others change the tree: what seekers and scanners do alike.
package descent

import (
	"strings"

	"burgage/api"
	"burgage/tree"
)

// Places of a way; those who go it have further ones.
const (
	Begin = 0
	Look  = 1
	Check = 2
	Kid   = 3
	Hand  = 4
	Lost  = 6
)

// Stop is a node on a way: the byte at which it is a kid, its word as it was read, and the node as it was looked at.
type Stop struct {
	Ref  api.Ref
	Byte byte
	Word api.Word
	Node api.Node
}

// Way is a way down from an anchor; P are the places of those who go it.
type Way[P ~int] struct {
	tree   *tree.Tree
	anchor api.Ref
	stops  []Stop
	next   Stop
	tries  int
}

// New returns an empty way.
func New[P ~int](t *tree.Tree, anchor api.Ref) *Way[P] {
	return &Way[P]{tree: t, anchor: anchor}
}

// Begin reads the word of the anchor.
func (w *Way[P]) Begin() P {
	word, state := w.tree.Begin(w.anchor)
	switch state {
	case tree.Gone:
		return Lost
	case tree.Held:
		return Begin
	}
	w.stops = []Stop{{Ref: w.anchor, Word: word}}
	return Look
}

// Look reads the last node.
func (w *Way[P]) Look() P {
	last := &w.stops[len(w.stops)-1]
	n, is := w.tree.Node(last.Ref)
	if !is {
		return w.Over()
	}
	last.Node = n
	return Check
}

// Kid reads the word of the kid to which the way goes on.
func (w *Way[P]) Kid() P {
	word, state := w.tree.Begin(w.next.Ref)
	switch state {
	case tree.Gone:
		return w.Over()
	case tree.Held:
		return Kid
	}
	w.next.Word = word
	return Hand
}

// Hand makes that kid the last one.
func (w *Way[P]) Hand() P {
	if !w.Stands() {
		return w.Over()
	}
	w.stops = append(w.stops, w.next)
	return Look
}

// To tells the kid of the last node to which the way goes on, and its byte.
func (w *Way[P]) To(kid api.Ref, b byte) P {
	w.next = Stop{Ref: kid, Byte: b}
	return Kid
}

// Over starts over.
func (w *Way[P]) Over() P {
	w.tries++
	return w.Back()
}

// Back goes back to the beginning, without having to start over.
func (w *Way[P]) Back() P {
	w.stops = nil
	return Begin
}

// Stands reports whether the last node still has the word that was read.
func (w *Way[P]) Stands() bool {
	last := w.Last()
	return w.tree.Check(last.Ref, last.Word)
}

// Last returns the last one; a way that has begun has one.
func (w *Way[P]) Last() Stop { return w.stops[len(w.stops)-1] }

// Stops returns all of the way, to be read only.
func (w *Way[P]) Stops() []Stop { return w.stops }

// Prefix returns what lies on the way to the last node.
func (w *Way[P]) Prefix() string {
	var p strings.Builder
	for i, s := range w.stops {
		if i > 0 {
			p.WriteString(w.stops[i-1].Node.Path)
			p.WriteByte(s.Byte)
		}
	}
	return p.String()
}

// Tried returns how often it started over.
func (w *Way[P]) Tried() int { return w.tries }
