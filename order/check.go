package order

import (
	"cmp"
	"slices"

	"burgage/api"
)

// checker knows what has come before a Done.
type checker struct {
	d      []api.Done
	before []int       // for each entry the one before it of the same session, or -1
	first  map[int]int // for each entry its first Done
	used   map[int]bool
}

func newChecker(l []api.Entry, d []api.Done) *checker {
	c := &checker{d: d, first: map[int]int{}, used: map[int]bool{}}
	last := map[int]int{}
	for i, x := range l {
		before, is := last[x.Session]
		if !is {
			before = -1
		}
		c.before = append(c.before, before)
		last[x.Session] = i
	}
	for i, x := range slices.Backward(d) {
		c.first[x.Entry] = i
	}
	return c
}

// errno returns what is wrong with a Done.
func (c *checker) errno(i int) api.Errno {
	x := c.d[i]
	switch {
	case x.Entry < 0 || x.Entry >= len(c.before):
		return api.ErrRange
	case c.first[x.Entry] != i:
		return api.ErrTwice
	case x.From < 0 || x.At < x.From || x.To < x.At || c.used[x.From] || c.used[x.At] || c.used[x.To]:
		return api.ErrShape
	case !c.follows(x):
		return api.ErrState
	}
	return api.OK
}

// follows reports whether the entry before a Done's ended before it began.
func (c *checker) follows(x api.Done) bool {
	before := c.before[x.Entry]
	if before < 0 {
		return true
	}
	i, is := c.first[before]
	return is && c.d[i].To < x.From
}

// Check reports whether Dones are well formed.
func Check(l []api.Entry, d []api.Done) (int, api.Errno) {
	c := newChecker(l, d)
	for i, x := range d {
		if e := c.errno(i); e != api.OK {
			return i, e
		}
		c.used[x.From], c.used[x.At], c.used[x.To] = true, true, true
	}
	return len(d), api.OK
}

// event is what happens at a pick: a Done is decided, or it ends.
type event struct {
	pick, done int
	ends       bool
}

// events returns what happens to Dones, by picks; a Done is decided before it ends.
func events(d []api.Done) []event {
	var l []event
	for i, x := range d {
		l = append(l, event{x.At, i, false}, event{x.To, i, true})
	}
	return sorted(l, func(x event) int { return x.pick })
}

// sorted returns the elements of a list by a number; equal ones stay in their order.
func sorted[T any](l []T, by func(T) int) []T {
	return slices.SortedStableFunc(slices.Values(l), func(a, b T) int { return cmp.Compare(by(a), by(b)) })
}
