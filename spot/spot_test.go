package spot_test

import (
	"testing"

	"burgage/api"
	"burgage/spot"
)

func TestOf(t *testing.T) {
	kid := api.Ref{Slot: 7, Gen: 1}
	inner := api.Node{Kind: api.Node4, Path: "bc", Bytes: []byte("dx"), Kids: []api.Ref{kid, {Slot: 8, Gen: 1}}}
	leaf := api.Node{Kind: api.Leaf, Code: "abc\x00\x00"}
	for i, c := range []struct {
		n     api.Node
		code  string
		depth int
		want  spot.Step
	}{
		{inner, "abcd\x00\x00", 1, spot.Step{Sort: spot.Kid, At: 'd', Kid: kid, Depth: 4}},
		{inner, "abce\x00\x00", 1, spot.Step{Sort: spot.Bare, At: 'e'}},
		{inner, "abd\x00\x00", 1, spot.Step{Sort: spot.Split, At: 1}},
		{inner, "a\x00\x00", 1, spot.Step{Sort: spot.Split}},
		{inner, "abc", 1, spot.Step{Sort: spot.Split, At: 2}},
		{inner, "a", 9, spot.Step{Sort: spot.Split}},
		{api.Node{Kind: api.Node256}, "a\x00\x00", 0, spot.Step{Sort: spot.Bare, At: 'a'}},
		{leaf, "abc\x00\x00", 1, spot.Step{Sort: spot.Here}},
		{leaf, "abd\x00\x00", 1, spot.Step{Sort: spot.Other, At: 1}},
		{leaf, "abcd\x00\x00", 3, spot.Step{Sort: spot.Other}},
		{leaf, "a", 9, spot.Step{Sort: spot.Other}},
	} {
		if got := spot.Of(c.n, c.code, c.depth); got != c.want {
			t.Error(i, got)
		}
	}
}
