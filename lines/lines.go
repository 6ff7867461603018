// Package lines makes texts of lines and takes them apart.
package lines

import (
	"iter"
	"strings"
)

// Feed ends a line.
const Feed = "\n"

// Each yields the lines of a text by their indices, with their line feeds; the last one may lack its own.
func Each(text string) iter.Seq2[int, string] {
	return func(yield func(int, string) bool) {
		i := 0
		for l := range strings.Lines(text) {
			if !yield(i, l) {
				return
			}
			i++
		}
	}
}

// Text is a text that grows line by line, up to a greatest length. What is beyond it is not kept.
type Text struct {
	Most    int
	text    strings.Builder
	tooLong bool
}

// Add adds some lines that are complete, or nothing.
func (t *Text) Add(text string) {
	t.tooLong = t.tooLong || t.text.Len()+len(text) > t.Most
	if !t.tooLong {
		t.text.WriteString(text)
	}
}

// Whole returns the text, unless it is too long.
func (t *Text) Whole() (string, bool) {
	if t.tooLong {
		return "", false
	}
	return t.text.String(), true
}
