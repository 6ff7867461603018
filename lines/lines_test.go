package lines_test

import (
	"slices"
	"testing"

	"burgage/lines"
)

func TestEach(t *testing.T) {
	for text, want := range map[string][]string{"": nil, "\n": {"\n"}, "a\nb": {"a\n", "b"}, "a\n\nb\n": {"a\n", "\n", "b\n"}} {
		var got []string
		for i, l := range lines.Each(text) {
			if i != len(got) {
				t.Error(text, i)
			}
			got = append(got, l)
		}
		if !slices.Equal(got, want) {
			t.Errorf("%q: %q", text, got)
		}
	}
	for range lines.Each("a\nb\n") {
		break
	}
}

func TestText(t *testing.T) {
	x := lines.Text{Most: 4}
	x.Add("a\n")
	x.Add("b\n")
	if s, is := x.Whole(); s != "a\nb\n" || !is {
		t.Error(s, is)
	}
	x.Add("c")
	x.Add("")
	if s, is := x.Whole(); s != "" || is {
		t.Error(s, is)
	}
}
