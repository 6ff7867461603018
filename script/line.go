package script

import (
	"strconv"
	"strings"

	"burgage/api"
	"burgage/handle"
	"burgage/number"
	"burgage/result"
	"burgage/stat"
)

// broken is the panic that a word which does not fit ends in.
type broken struct{}

// line is what stands in a line: it is read from words, or written into words, by the same methods.
type line struct {
	writes  bool
	words   []string // that are left to read, or that are written
	session int
	picks   []int
	request api.Request
	done    api.Done
}

func reading(text string) *line { return &line{words: strings.Split(text, " ")} }

// join puts words into a line.
func join(words ...string) string { return strings.Join(words, " ") }

// do reads or writes something; it reports whether all words fit.
func (l *line) do(something func(*line)) (is bool) {
	defer func() {
		if recover() != nil {
			is = false
		}
	}()
	something(l)
	return l.writes || len(l.words) == 0
}

func (l *line) must(is bool) {
	if !is {
		panic(broken{})
	}
}

func (l *line) next() string {
	l.must(len(l.words) > 0)
	w := l.words[0]
	l.words = l.words[1:]
	return w
}

func (l *line) put(words ...string) { l.words = append(l.words, words...) }

// one reads or writes the word of something.
func one[T any](l *line, x *T, show func(T) (string, api.Errno), read func(string) (T, api.Errno)) {
	var e api.Errno
	if l.writes {
		var w string
		w, e = show(*x)
		l.put(w)
	} else {
		*x, e = read(l.next())
	}
	l.must(e == api.OK)
}

func (l *line) text(s *string) { one(l, s, showText, Unword) }
func (l *line) small(n *int)   { one(l, n, showSmall, readSmall) }

func (l *line) handle() { one(l, &l.request.Handle, handle.Show, handle.Read) }
func (l *line) key()    { l.text(&l.request.Key) }
func (l *line) value()  { l.text(&l.request.Value) }
func (l *line) old()    { l.text(&l.request.Old) }
func (l *line) limit()  { l.small(&l.request.Limit) }
func (l *line) tenant() { l.small(&l.request.Tenant) }
func (l *line) keys()   { one(l, &l.request.Quota.Keys, showLarge, readLarge) }
func (l *line) bytes()  { one(l, &l.request.Quota.Bytes, showLarge, readLarge) }
func (l *line) rights() { one(l, &l.request.Rights, showRights, readRights) }

// fields returns what stands in the line of each deed, behind its name.
func fields() map[api.Deed][]func(*line) {
	return map[api.Deed][]func(*line){
		api.Get:    {(*line).handle, (*line).key},
		api.Put:    {(*line).handle, (*line).key, (*line).value},
		api.Delete: {(*line).handle, (*line).key},
		api.Swap:   {(*line).handle, (*line).key, (*line).old, (*line).value},
		api.Scan:   {(*line).handle, (*line).key, (*line).limit},
		api.Tell:   {(*line).handle},
		api.Create: {(*line).tenant, (*line).keys, (*line).bytes},
		api.Remove: {(*line).tenant},
		api.Issue:  {(*line).tenant, (*line).rights},
		api.Revoke: {(*line).tenant},
	}
}

// names are the names of the deeds, by their numbers.
var names = [...]string{
	api.Get: "get", api.Put: "put", api.Delete: "delete", api.Swap: "swap", api.Scan: "scan",
	api.Tell: "tell", api.Create: "create", api.Remove: "remove", api.Issue: "issue", api.Revoke: "revoke",
}

func showDeed(d api.Deed) (string, api.Errno) {
	if d < api.Get || d > api.Revoke {
		return "", api.ErrShape
	}
	return names[d], api.OK
}

func readDeed(w string) (api.Deed, api.Errno) {
	for d := api.Get; d <= api.Revoke; d++ {
		if names[d] == w {
			return d, api.OK
		}
	}
	return 0, api.ErrSyntax
}

// asks is the text of a request.
func (l *line) asks() {
	one(l, &l.request.Deed, showDeed, readDeed)
	for _, field := range fields()[l.request.Deed] {
		field(l)
	}
}

const picksWord = "picks"

// isPicks reports whether a line that is read is one of picks.
func (l *line) isPicks() bool { return l.words[0] == picksWord }

// pickList is a line of picks.
func (l *line) pickList() {
	if l.writes {
		l.put(picksWord)
		for _, p := range l.picks {
			l.put(strconv.Itoa(p))
		}
		return
	}
	l.must(l.next() == picksWord && len(l.words) > 0)
	for len(l.words) > 0 {
		p, is := number.Signed(l.next())
		l.must(is)
		l.picks = append(l.picks, p)
	}
}

// entry is the line of an entry of a script.
func (l *line) entry() {
	l.small(&l.session)
	l.asks()
}

const (
	failure  = "error"
	success  = "ok"
	valued   = "value"
	paired   = "pairs"
	handled  = "handle"
	statDone = "stat"
)

// nameOf returns the first word of the text of an answer.
func nameOf(a api.Answer) string {
	switch {
	case a.Err != api.OK:
		return failure
	case a.Value != "":
		return valued
	case len(a.Pairs) > 0:
		return paired
	case a.Handle != (api.Handle{}):
		return handled
	case a.Stat != (api.Stat{}):
		return statDone
	}
	return success
}

// answers is the text of an answer.
func (l *line) answers() {
	a := &l.done.Answer
	name := nameOf(*a)
	if l.writes {
		l.put(name)
	} else {
		name = l.next()
	}
	switch name {
	case success:
	case failure:
		n := int(a.Err)
		l.small(&n)
		a.Err = api.Errno(n)
	case valued:
		l.text(&a.Value)
	case paired:
		l.pairs()
	case handled:
		one(l, &a.Handle, handle.Show, handle.Read)
	case statDone:
		l.stat()
	default:
		panic(broken{})
	}
	// What does not say anything has another text: that of a success.
	l.must(nameOf(*a) == name)
}

func (l *line) pairs() {
	a := &l.done.Answer
	if l.writes {
		for i := range a.Pairs {
			l.put(Word(a.Pairs[i].Key), Word(a.Pairs[i].Value))
		}
		return
	}
	for len(l.words) > 0 {
		var p api.Pair
		l.text(&p.Key)
		l.text(&p.Value)
		a.Pairs = append(a.Pairs, p)
	}
}

func (l *line) stat() {
	a := &l.done.Answer
	if l.writes {
		text := stat.Format(a.Stat)
		l.must(text != "")
		l.put(text)
		return
	}
	var e api.Errno
	a.Stat, e = stat.Parse(join(l.words...))
	l.must(e == api.OK)
	l.words = nil
}

// ends is the line of a result.
func (l *line) ends() {
	for _, n := range []*int{&l.done.Entry, &l.done.From, &l.done.At, &l.done.To} {
		l.small(n)
	}
	l.answers()
}

// write returns the text of something that is read again the same.
func write(l line, something func(*line), same func(*line) bool) (string, bool) {
	l.writes = true
	if !l.do(something) {
		return "", false
	}
	text := join(l.words...)
	back := reading(text)
	return text, back.do(something) && same(back)
}

func showEntry(x api.Entry) (string, bool) {
	l := line{session: x.Session, request: x.Request}
	return write(l, (*line).entry, func(back *line) bool { return back.request == x.Request })
}

// isDone returns what tells whether a line that is read again says a result.
func isDone(d api.Done) func(*line) bool {
	return func(back *line) bool { return result.Same(back.done, d) }
}

func showDone(d api.Done) (string, bool) {
	return write(line{done: d}, (*line).ends, isDone(d))
}
