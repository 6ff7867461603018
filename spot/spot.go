// Package spot tells how the way of a code goes on from one node of a tree, or how it ends there.
package spot

import (
	"burgage/api"
	"burgage/node"
	"burgage/path"
)

// Sort is how a way goes on or ends.
type Sort int

// Sorts: it goes on to a kid; it ends at the leaf of the code, where a kid is missing, within a Path, or at another leaf.
const (
	Kid Sort = iota
	Here
	Bare
	Split
	Other
)

// Step is what a node says to a code. At is the byte of a kid, there or missing, or how many bytes are common; Depth is the depth behind that byte.
type Step struct {
	Sort  Sort
	At    int
	Kid   api.Ref
	Depth int
}

// Of returns what a node at a depth says to a code.
func Of(n api.Node, code string, depth int) Step {
	if n.Kind == api.Leaf {
		return atLeaf(n, code, depth)
	}
	rest := path.Rest(code, depth)
	common := path.Common(rest, n.Path)
	_, b, _, is := path.Cut(rest, len(n.Path))
	if common < len(n.Path) || !is {
		return Step{Sort: Split, At: common}
	}
	if kid, is := node.Find(n, b); is {
		return Step{Kid, int(b), kid, depth + len(n.Path) + 1}
	}
	return Step{Sort: Bare, At: int(b)}
}

func atLeaf(n api.Node, code string, depth int) Step {
	if n.Code == code {
		return Step{Sort: Here}
	}
	return Step{Sort: Other, At: path.Common(path.Rest(n.Code, depth), path.Rest(code, depth))}
}
