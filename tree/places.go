package tree

import (
	"burgage/api"
	"burgage/lock"
	"burgage/node"
	"burgage/slab"
)

// cell is what stands on a place. Nodes are never changed but replaced, so that copies may share their lists.
type cell[N any] struct {
	node    N
	planted bool
	died    bool
}

// places are the nodes of a tree and their words.
type places struct {
	slab  *slab.Slab[cell[api.Node]]
	locks *lock.Locks
}

// node returns what stands on a place; the zero node if the Ref does not live.
func (p *places) node(r api.Ref) api.Node {
	c, _ := p.slab.Get(r)
	return c.node
}

func (p *places) lives(r api.Ref) bool {
	_, is := p.slab.Get(r)
	return is
}

func (p *places) isAnchor(r api.Ref) bool {
	c, _ := p.slab.Get(r)
	return c.planted
}

func (p *places) isDead(r api.Ref) bool {
	c, _ := p.slab.Get(r)
	return c.died
}

// take puts a cell on a new place.
func (p *places) take(c cell[api.Node]) (api.Ref, api.Errno) {
	r, e := p.slab.Take(c)
	if e == api.OK {
		p.locks.Add(r)
	}
	return r, e
}

// add puts a node on a new place, which must be free.
func (p *places) add(n api.Node) api.Ref {
	r, _ := p.take(cell[api.Node]{node: n})
	return r
}

// set replaces the node on a place.
func (p *places) set(r api.Ref, n api.Node) {
	c, _ := p.slab.Get(r)
	c.node = n
	p.slab.Set(r, c)
}

// turn replaces the kid of a byte.
func (p *places) turn(r api.Ref, b byte, kid api.Ref) {
	n, _ := node.Turn(p.node(r), b, kid)
	p.set(r, n)
}

// die marks nodes that nothing leads to any more.
func (p *places) die(l []api.Ref) {
	for _, r := range l {
		c, _ := p.slab.Get(r)
		c.died = true
		p.slab.Set(r, c)
	}
}

func (p *places) release(r api.Ref) {
	p.slab.Free(r)
	p.locks.Gone(r)
}

// visit calls do for a place and all places below it, from above, kids by their bytes.
func (p *places) visit(r api.Ref, do func(api.Ref, api.Node)) {
	n := p.node(r)
	do(r, n)
	for _, kid := range n.Kids {
		p.visit(kid, do)
	}
}

func (p *places) copied() *places { return &places{p.slab.Copy(), p.locks.Copy()} }
