// Package result compares and copies results.
package result

import (
	"slices"

	"burgage/api"
)

// head is all of a result but its pairs.
type head struct {
	entry, from, at, to int
	err                 api.Errno
	value               string
	handle              api.Handle
	stat                api.Stat
}

func headOf(d api.Done) head {
	return head{d.Entry, d.From, d.At, d.To, d.Answer.Err, d.Answer.Value, d.Answer.Handle, d.Answer.Stat}
}

// Same reports whether two results are equal.
func Same(a, b api.Done) bool {
	return headOf(a) == headOf(b) && slices.Equal(a.Answer.Pairs, b.Answer.Pairs)
}

// Differ returns the first index at which two lists have different results, or only one has any; their length if there is none.
func Differ(a, b []api.Done) (int, bool) {
	n := min(len(a), len(b))
	for i := range n {
		if !Same(a[i], b[i]) {
			return i, true
		}
	}
	return n, len(a) != len(b)
}

// Copy returns results in memory of their own.
func Copy(l []api.Done) []api.Done {
	c := slices.Clone(l)
	for i := range c {
		c[i].Answer.Pairs = slices.Clone(c[i].Answer.Pairs)
	}
	return c
}
