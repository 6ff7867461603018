package op

import (
	"burgage/api"
	"burgage/code"
	"burgage/drop"
	"burgage/find"
	"burgage/put"
	"burgage/scan"
	"burgage/tree"
)

// machine does what a request asks for, step by step.
type machine interface {
	step()
	Tries() int
}

type seeking struct{ *find.Seeker }
type putting struct{ *put.Putter }
type dropping struct{ *drop.Dropper }
type scanning struct{ *scan.Scanner }

func (s seeking) step()  { s.Step() }
func (p putting) step()  { p.Step() }
func (d dropping) step() { d.Step() }
func (s scanning) step() { s.Step() }

// begin returns the machine of a request whose arguments are valid.
func begin(t *tree.Tree, anchor api.Ref, r api.Request, g put.Gate) machine {
	return map[api.Deed]func() machine{
		api.Get: func() machine {
			c, _ := code.Encode(r.Key)
			s, _ := find.New(t, anchor, c)
			return seeking{s}
		},
		api.Put: func() machine {
			p, _ := put.New(t, anchor, r.Key, r.Value, g)
			return putting{p}
		},
		api.Delete: func() machine {
			d, _ := drop.New(t, anchor, r.Key, g)
			return dropping{d}
		},
		api.Swap: func() machine {
			p, _ := put.Swap(t, anchor, r.Key, r.Old, r.Value, g)
			return putting{p}
		},
		api.Scan: func() machine {
			s, _ := scan.New(t, anchor, r.Key, r.Limit)
			return scanning{s}
		},
	}[r.Deed]()
}

// isThrough reports whether a machine does nothing any more.
func isThrough(m machine) bool {
	switch x := m.(type) {
	case seeking:
		return x.Place() == find.Found || x.Place() == find.Lost
	case scanning:
		return x.Place() == scan.Through || x.Place() == scan.Lost
	case putting:
		return x.Place() == put.Through
	case dropping:
		return x.Place() == drop.Through
	}
	return true
}

// isWriting reports whether a machine would write in its next step.
func isWriting(m machine) bool {
	switch x := m.(type) {
	case putting:
		return x.Place() == put.Write
	case dropping:
		return x.Place() == drop.Write
	}
	return false
}

// held returns what a machine holds.
func held(m machine) []api.Ref {
	switch x := m.(type) {
	case putting:
		return x.Holds()
	case dropping:
		return x.Holds()
	}
	return nil
}

// quit makes a machine give up.
func quit(m machine) {
	switch x := m.(type) {
	case putting:
		x.Quit()
	case dropping:
		x.Quit()
	}
}
