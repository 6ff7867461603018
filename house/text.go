package house

import (
	"strconv"
	"strings"

	"burgage/api"
	"burgage/lines"
	"burgage/number"
	"burgage/script"
	"burgage/stat"
)

const (
	maxText    = 1 << 22
	maxSmall   = 999999999
	tenantWord = "tenant"
	pairWord   = "pair"
	leftWord   = "left"
	picksWord  = "picks"
	roomWord   = "room"
)

func join(words ...string) string { return strings.Join(words, " ") }

// rises reports whether the keys of pairs are strictly increasing.
func rises(l []api.Pair) bool {
	for i := range l {
		if i > 0 && l[i].Key <= l[i-1].Key {
			return false
		}
	}
	return true
}

func isSmall(n int) bool { return n >= 0 && n <= maxSmall }

// isRight reports whether all of a report but its results has a text.
func isRight(r Report) bool {
	last := 0
	for _, t := range r.Tenants {
		if t.Number <= last || t.Number > api.MaxTenants || !stat.Is(t.Stat) || !rises(t.Pairs) {
			return false
		}
		last = t.Number
	}
	return isSmall(r.Left) && isSmall(r.Picks) && isSmall(r.Room)
}

// Format returns the text of a report.
func Format(r Report) (string, api.Errno) {
	done, e := script.FormatDone(r.Done)
	if e != api.OK {
		return "", e
	}
	if !isRight(r) {
		return "", api.ErrShape
	}
	text := lines.Text{Most: maxText}
	text.Add(done)
	add := func(words ...string) { text.Add(join(words...) + lines.Feed) }
	for _, t := range r.Tenants {
		add(tenantWord, strconv.Itoa(t.Number), stat.Format(t.Stat))
		for _, p := range t.Pairs {
			add(pairWord, script.Word(p.Key), script.Word(p.Value))
		}
	}
	add(leftWord, strconv.Itoa(r.Left), picksWord, strconv.Itoa(r.Picks), roomWord, strconv.Itoa(r.Room))
	s, is := text.Whole()
	if !is {
		return "", api.ErrLong
	}
	return s, api.OK
}

// reader reads a report line by line.
type reader struct {
	Report
	ended bool // it has had its last line
}

// line reads a line with its line feed.
func (r *reader) line(text string) api.Errno {
	s, whole := strings.CutSuffix(text, lines.Feed)
	words := strings.Split(s, " ")
	is := false
	switch {
	case !whole || r.ended:
	case words[0] == tenantWord:
		is = r.tenant(words[1:])
	case words[0] == pairWord:
		is = r.pair(words[1:])
	case words[0] == leftWord:
		is = r.last(words)
	default:
		return r.result(text)
	}
	if !is {
		return api.ErrSyntax
	}
	return api.OK
}

// result reads the line of a result: such lines stand first.
func (r *reader) result(text string) api.Errno {
	l, _, e := script.ParseDone(text)
	switch {
	case e != api.OK || len(r.Tenants) > 0:
		return api.ErrSyntax
	case len(r.Done) == api.MaxEntries:
		return api.ErrLong
	}
	r.Done = append(r.Done, l...)
	return api.OK
}

func (r *reader) tenant(words []string) bool {
	if len(words) < 2 {
		return false
	}
	n, is := number.Natural(words[0], api.MaxTenants)
	s, e := stat.Parse(join(words[1:]...))
	last := 0
	if len(r.Tenants) > 0 {
		last = r.Tenants[len(r.Tenants)-1].Number
	}
	if !is || int(n) <= last || e != api.OK {
		return false
	}
	r.Tenants = append(r.Tenants, Tenant{Number: int(n), Stat: s})
	return true
}

func (r *reader) pair(words []string) bool {
	if len(words) != 2 || len(r.Tenants) == 0 {
		return false
	}
	key, e := script.Unword(words[0])
	value, e2 := script.Unword(words[1])
	t := &r.Tenants[len(r.Tenants)-1]
	if e != api.OK || e2 != api.OK || len(t.Pairs) > 0 && key <= t.Pairs[len(t.Pairs)-1].Key {
		return false
	}
	t.Pairs = append(t.Pairs, api.Pair{Key: key, Value: value})
	return true
}

// last reads the last line: words with a number behind each.
func (r *reader) last(words []string) bool {
	if len(words) != 6 {
		return false
	}
	for i, x := range []struct {
		word string
		n    *int
	}{{leftWord, &r.Left}, {picksWord, &r.Picks}, {roomWord, &r.Room}} {
		n, is := number.Natural(words[2*i+1], maxSmall)
		if words[2*i] != x.word || !is {
			return false
		}
		*x.n = int(n)
	}
	r.ended = true
	return true
}

// Parse returns the report of a text, or the index of the first wrong line and its error.
func Parse(text string) (Report, int, api.Errno) {
	if len(text) > maxText {
		return Report{}, 0, api.ErrLong
	}
	var r reader
	n := 0
	for i, l := range lines.Each(text) {
		if e := r.line(l); e != api.OK {
			return Report{}, i, e
		}
		n = i + 1
	}
	if !r.ended {
		return Report{}, n, api.ErrSyntax
	}
	return r.Report, 0, api.OK
}
