package weave_test

import (
	"math"
	"math/rand"
	"slices"
	"testing"

	"burgage/api"
	"burgage/weave"
)

// job takes some picks.
type job struct{ left, picked int }

func (j *job) Pick() bool {
	j.left--
	j.picked++
	return j.left <= 0
}

func made(t *testing.T, sessions int) *weave.Weave[*job] {
	t.Helper()
	w, e := weave.New[*job](sessions)
	if w == nil || e != api.OK || w.Len() != 0 || w.Picks() != 0 || len(w.Can()) != 0 {
		t.Fatal(w, e)
	}
	return w
}

func ask(t *testing.T, w *weave.Weave[*job], session, picks, want int) {
	t.Helper()
	if n, e := w.Ask(session, &job{left: picks}); n != want || e != api.OK || w.Len() != want+1 {
		t.Fatal(n, e)
	}
}

func turn(t *testing.T, w *weave.Weave[*job], p int, want weave.Turn) {
	t.Helper()
	if got, is := w.Pick(p); got != want || !is {
		t.Fatal(p, got, is)
	}
}

func TestNew(t *testing.T) {
	for _, n := range []int{0, -1, 65, math.MinInt, math.MaxInt} {
		if w, e := weave.New[*job](n); w != nil || e != api.ErrArg {
			t.Error(n, w, e)
		}
	}
	for _, n := range []int{1, 64} {
		w := made(t, n)
		for _, session := range []int{-1, n, math.MinInt} {
			if j, e := w.Ask(session, &job{}); j != 0 || e != api.ErrRange {
				t.Error(j, e)
			}
			if j, is := w.Own(session); j != 0 || is {
				t.Error(j, is)
			}
		}
	}
}

func TestExample(t *testing.T) {
	w := made(t, 3)
	ask(t, w, 0, 2, 0)
	ask(t, w, 2, 2, 1)
	ask(t, w, 2, 2, 2)
	turn(t, w, 0, weave.Turn{Job: 0, Session: 0, Began: true})
	turn(t, w, 1, weave.Turn{Job: 1, Session: 2, Began: true})
	turn(t, w, 1, weave.Turn{Job: 1, Session: 2, Ended: true})
	turn(t, w, 1, weave.Turn{Job: 2, Session: 2, Began: true})
	turn(t, w, -1, weave.Turn{Job: 2, Session: 2, Ended: true})
	if l := w.Can(); !slices.Equal(l, []int{0}) {
		t.Error(l)
	}
	turn(t, w, 99, weave.Turn{Job: 0, Session: 0, Ended: true})
	if got, is := w.Pick(0); got != (weave.Turn{}) || is || w.Picks() != 7 {
		t.Error(got, is, w.Picks())
	}
	ask(t, w, 1, 1, 3)
	turn(t, w, 0, weave.Turn{Job: 3, Session: 1, Began: true, Ended: true})
	if w.Picks() != 8 {
		t.Error(w.Picks())
	}
}

func TestAnyNumber(t *testing.T) {
	w := made(t, 3)
	for s := range 3 {
		ask(t, w, s, 100, s)
	}
	for p, session := range map[int]int{0: 0, 1: 1, 2: 2, 3: 0, -1: 2, -2: 1, -3: 0, math.MaxInt: math.MaxInt % 3, math.MinInt: (math.MinInt%3 + 3) % 3} {
		if got, is := w.Pick(p); got.Session != session || !is {
			t.Error(p, got)
		}
	}
}

func TestJobsAndOwn(t *testing.T) {
	w := made(t, 2)
	ask(t, w, 1, 1, 0)
	ask(t, w, 1, 2, 1)
	if n, is := w.Own(1); n != 0 || !is {
		t.Error(n, is)
	}
	if n, is := w.Own(0); n != 0 || is {
		t.Error(n, is)
	}
	w.Pick(0)
	if n, is := w.Own(1); n != 1 || !is {
		t.Error(n, is)
	}
	if j, is := w.Job(0); j == nil || !is || j.picked != 1 {
		t.Error(j, is)
	}
	for _, n := range []int{-1, 2, math.MaxInt} {
		if j, is := w.Job(n); j != nil || is {
			t.Error(n, j, is)
		}
	}
}

func TestFull(t *testing.T) {
	w := made(t, 2)
	for i := range api.MaxEntries {
		ask(t, w, i%2, 1, i)
	}
	if n, e := w.Ask(0, &job{}); n != 0 || e != api.ErrFull || w.Len() != api.MaxEntries {
		t.Error(n, e)
	}
	if n, e := w.Ask(2, &job{}); n != 0 || e != api.ErrRange {
		t.Error(n, e)
	}
}

func TestJobsOfASessionEndInOrder(t *testing.T) {
	r := rand.New(rand.NewSource(1))
	w := made(t, 5)
	total := 0
	for i := range 200 {
		picks := 1 + r.Intn(4)
		total += picks
		ask(t, w, r.Intn(5), picks, i)
	}
	open := map[int]int{}
	last := map[int]int{}
	for range total {
		x, is := w.Pick(r.Int())
		if own, began := open[x.Session]; !is || began == x.Began || began && own != x.Job {
			t.Fatal(x, is)
		}
		open[x.Session] = x.Job
		if x.Ended {
			if n, was := last[x.Session]; was && n >= x.Job {
				t.Fatal(x, n)
			}
			last[x.Session] = x.Job
			delete(open, x.Session)
		}
	}
	if len(w.Can()) != 0 {
		t.Error(w.Can())
	}
}

func TestNoJobHasEnded(t *testing.T) {
	w, _ := weave.New[weave.Job](1)
	w.Ask(0, nil)
	if x, is := w.Pick(0); x != (weave.Turn{Began: true, Ended: true}) || !is {
		t.Error(x, is)
	}
}

func TestNil(t *testing.T) {
	for _, w := range []*weave.Weave[*job]{nil, {}} {
		if n, e := w.Ask(0, &job{}); n != 0 || e != api.ErrNil {
			t.Error(n, e)
		}
		if x, is := w.Pick(0); x != (weave.Turn{}) || is {
			t.Error(x, is)
		}
		if j, is := w.Job(0); j != nil || is {
			t.Error(j, is)
		}
		if n, is := w.Own(0); n != 0 || is || w.Can() != nil || w.Len() != 0 || w.Picks() != 0 {
			t.Error("not nothing")
		}
	}
}
