package weave_test

import (
	"reflect"
	"testing"

	"burgage/api"
	"burgage/art"
	"burgage/code"
	"burgage/op"
	"burgage/sample"
	"burgage/tree"
	"burgage/weave"
)

func coded(key string) string {
	c, _ := code.Encode(key)
	return c
}

// below returns the nodes below an anchor, as the model of a radix tree lists them.
func below(x *tree.Tree, r api.Ref) []api.Node {
	var l []api.Node
	n, _ := x.Node(r)
	for _, kid := range n.Kids {
		k, _ := x.Node(kid)
		k.Kids = nil
		l = append(append(l, k), below(x, kid)...)
	}
	return l
}

// done does a request on the model at once, and returns the answer that it should have.
func done(m *art.Art, r api.Request) api.Answer {
	c := coded(r.Key)
	value, is := m.Get(c)
	switch {
	case r.Deed == api.Put:
		m.Put(c, r.Value)
	case !is:
		return api.Answer{Err: api.ErrNone}
	case r.Deed == api.Get:
		return api.Answer{Value: value}
	case r.Deed == api.Delete:
		m.Delete(c)
	case value != r.Old:
		return api.Answer{Err: api.ErrDiffer}
	default:
		m.Put(c, r.Value)
	}
	return api.Answer{}
}

// TestOpsAnswerAsIfDoneAtOnce weaves ops on one tree and compares them with a model at which each is done in the pick in which it decided.
func TestOpsAnswerAsIfDoneAtOnce(t *testing.T) {
	busy := 0
	for seed := range 150 {
		r := sample.From(seed)
		x, _ := tree.New(500)
		anchor, _ := x.Plant()
		w, _ := weave.New[*op.Op](8)
		m := art.New()
		var requests []api.Request
		var want []api.Answer
		for range 60 {
			q := r.Operation()
			if q.Deed == api.Scan || len(q.Key) > api.MaxKey || len(q.Value) > api.MaxValue || len(q.Old) > api.MaxValue {
				continue
			}
			o, _ := op.New(x, anchor, q, 10+r.Below(60), nil)
			w.Ask(r.Below(8), o)
			requests, want = append(requests, q), append(want, api.Answer{})
		}
		decided := map[int]bool{}
		for len(w.Can()) > 0 {
			turn, _ := w.Pick(r.Below(1000))
			o, _ := w.Job(turn.Job)
			if o.At() < 0 || decided[turn.Job] {
				continue
			}
			decided[turn.Job] = true
			if a, is := o.Answer(); is && a.Err == api.ErrBusy {
				want[turn.Job] = a
				busy++
				continue
			}
			want[turn.Job] = done(m, requests[turn.Job])
		}
		for n, a := range want {
			o, _ := w.Job(n)
			if got, is := o.Answer(); !is || !reflect.DeepEqual(got, a) {
				t.Fatal(seed, n, requests[n], got, a)
			}
		}
		got, shape := below(x, anchor), m.Below()
		if len(got) != len(shape) || len(got) > 0 && !reflect.DeepEqual(got, shape) || x.Room() != 499-len(shape) || x.Held() != 0 {
			t.Fatal(seed, "the tree is not the one that its keys ask for")
		}
	}
	if busy == 0 {
		t.Error("nobody was ever busy")
	}
}
