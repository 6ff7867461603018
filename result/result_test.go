package result_test

import (
	"testing"

	"burgage/api"
	"burgage/result"
)

func one() api.Done {
	return api.Done{Entry: 1, From: 2, At: 3, To: 4, Answer: api.Answer{Pairs: []api.Pair{{Key: "a", Value: "x"}}}}
}

func TestSameAndDiffer(t *testing.T) {
	changes := []func(*api.Done){
		func(d *api.Done) { d.Entry++ },
		func(d *api.Done) { d.From++ },
		func(d *api.Done) { d.At++ },
		func(d *api.Done) { d.To++ },
		func(d *api.Done) { d.Answer.Err++ },
		func(d *api.Done) { d.Answer.Value = "v" },
		func(d *api.Done) { d.Answer.Handle.Gen++ },
		func(d *api.Done) { d.Answer.Stat.Gets++ },
		func(d *api.Done) { d.Answer.Pairs = nil },
		func(d *api.Done) { d.Answer.Pairs[0].Value = "y" },
	}
	for i, change := range changes {
		x := one()
		change(&x)
		if result.Same(x, one()) {
			t.Error(i)
		}
		if n, is := result.Differ([]api.Done{one(), x}, []api.Done{one(), one()}); n != 1 || !is {
			t.Error(i, n, is)
		}
	}
	if !result.Same(one(), one()) {
		t.Error("equal ones")
	}
	if n, is := result.Differ([]api.Done{one()}, nil); n != 0 || !is {
		t.Error(n, is)
	}
	if n, is := result.Differ([]api.Done{one()}, []api.Done{one()}); n != 1 || is {
		t.Error(n, is)
	}
}

func TestCopy(t *testing.T) {
	l := []api.Done{one()}
	result.Copy(l)[0].Answer.Pairs[0].Key = "z"
	if !result.Same(l[0], one()) {
		t.Error("shared memory")
	}
}
