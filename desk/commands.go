package desk

import (
	"strconv"
	"strings"

	"burgage/api"
	"burgage/engine"
	"burgage/house"
	"burgage/lines"
	"burgage/number"
	"burgage/order"
	"burgage/script"
	"burgage/stat"
	"burgage/weave"
)

const (
	maxSmall = 999999999
	slash    = "/"
)

// failure is the panic that a line which fails ends in.
type failure api.Errno

// state is what a desk has: it is closed if it has no engine.
type state struct {
	setup  house.Setup
	script api.Script
	engine *engine.Engine
}

// call is a line that is done: the words that are left to be read, what was read, and the answer.
type call struct {
	*state
	words   []string
	numbers []int
	request api.Request
	loaded  strings.Builder
	answer  string
}

// command is what words it takes and what it does; only some may be told to a closed desk.
type command struct {
	takes, does func(*call)
	closed      bool
}

// commands returns all commands; what a command answers it leaves in the call.
func commands() map[string]command {
	return map[string]command{
		"open":    {takes: (*call).three, does: (*call).open, closed: true},
		"close":   {takes: (*call).nothing, does: (*call).close, closed: true},
		"ask":     {takes: (*call).entry, does: (*call).ask},
		"pick":    {takes: (*call).signed, does: (*call).pick},
		"finish":  {takes: (*call).nothing, does: (*call).finish},
		"back":    {takes: (*call).one, does: (*call).back},
		"load":    {takes: (*call).listed, does: (*call).load},
		"script":  {takes: (*call).nothing, does: (*call).show},
		"result":  {takes: (*call).one, does: (*call).result},
		"results": {takes: (*call).nothing, does: (*call).results},
		"effort":  {takes: (*call).one, does: (*call).effort},
		"stat":    {takes: (*call).one, does: (*call).stat},
		"pairs":   {takes: (*call).one, does: (*call).pairs},
		"tenants": {takes: (*call).nothing, does: (*call).tenants},
		"can":     {takes: (*call).nothing, does: (*call).can},
		"room":    {takes: (*call).nothing, does: (*call).room},
		"audit":   {takes: (*call).nothing, does: (*call).audit},
		"spy":     {takes: (*call).one, does: (*call).spy},
		"search":  {takes: (*call).nothing, does: (*call).search},
		"report":  {takes: (*call).nothing, does: (*call).report},
	}
}

// must fails with an error, unless something is so.
func must(is bool, e api.Errno) {
	if !is {
		panic(failure(e))
	}
}

// works fails with an error, if it is one.
func works(e api.Errno) { must(e == api.OK, e) }

// say answers words.
func (c *call) say(words ...string) { c.answer = strings.Join(words, " ") }

func num(n int) string { return strconv.Itoa(n) }

// nums returns a word and some numbers.
func nums(word string, l ...int) []string {
	words := []string{word}
	for _, n := range l {
		words = append(words, num(n))
	}
	return words
}

// inLine returns a text of lines as one line.
func inLine(text string) string {
	return strings.ReplaceAll(strings.TrimSuffix(text, lines.Feed), lines.Feed, " "+slash+" ")
}

func (c *call) next() string {
	must(len(c.words) > 0, api.ErrSyntax)
	w := c.words[0]
	c.words = c.words[1:]
	return w
}

func (c *call) nothing() { must(len(c.words) == 0, api.ErrSyntax) }

// small reads a small number.
func (c *call) small() {
	n, is := number.Natural(c.next(), maxSmall)
	must(is, api.ErrSyntax)
	c.numbers = append(c.numbers, int(n))
}

func (c *call) one() {
	c.small()
	c.nothing()
}

func (c *call) three() {
	c.small()
	c.small()
	c.one()
}

// entry reads a session and a request.
func (c *call) entry() {
	c.small()
	r, e := script.ReadRequest(strings.Join(c.words, " "))
	works(e)
	c.request = r
}

// signed reads one or more signed numbers.
func (c *call) signed() {
	must(len(c.words) > 0, api.ErrSyntax)
	for _, w := range c.words {
		n, is := number.Signed(w)
		must(is, api.ErrSyntax)
		c.numbers = append(c.numbers, n)
	}
}

// listed reads one or more lines.
func (c *call) listed() {
	var l []string
	end := func() {
		must(len(l) > 0, api.ErrSyntax)
		c.loaded.WriteString(strings.Join(l, " ") + lines.Feed)
		l = nil
	}
	for _, w := range c.words {
		if w == slash {
			end()
		} else {
			l = append(l, w)
		}
	}
	end()
}

func (c *call) open() {
	s := house.Setup{Slots: c.numbers[0], Sessions: c.numbers[1], Budget: c.numbers[2]}
	c.become(s, api.Script{})
	c.say("ready")
}

// become makes an engine of a setup and a script those of the desk.
func (c *call) become(s house.Setup, x api.Script) {
	e, errno := engine.After(s.Slots, s.Sessions, s.Budget, x)
	works(errno)
	*c.state = state{s, x, e}
}

func (c *call) close() {
	*c.state = state{}
	c.say("ok")
}

func (c *call) ask() {
	must(len(c.script.Picks) == 0, api.ErrState)
	n, e := c.engine.Ask(c.numbers[0], c.request)
	works(e)
	c.script.Entries = append(c.script.Entries, api.Entry{Session: c.numbers[0], Request: c.request})
	c.say("entry", num(n))
}

// picked does further picks, and returns their turns.
func (c *call) picked(picks []int) []string {
	var turns []string
	for _, p := range picks {
		turns = append(turns, turn(c.engine.Pick(p)))
	}
	c.script.Picks = append(c.script.Picks, picks...)
	return turns
}

func turn(t weave.Turn, is bool) string {
	if !is {
		return "none"
	}
	text := "job " + num(t.Job) + " session " + num(t.Session)
	if t.Began {
		text += " began"
	}
	if t.Ended {
		text += " ended"
	}
	return text
}

func (c *call) pick() {
	must(len(c.script.Picks)+len(c.numbers) <= api.MaxPicks, api.ErrLong)
	c.say(strings.Join(c.picked(c.numbers), " "+slash+" "))
}

func (c *call) finish() {
	x, e := house.Finish(c.setup, c.script)
	works(e)
	l := c.picked(x.Picks[len(c.script.Picks):])
	c.say(nums("picks", len(l))...)
}

func (c *call) back() {
	left := len(c.script.Picks) - c.numbers[0]
	must(left >= 0, api.ErrRange)
	c.become(c.setup, api.Script{Entries: c.script.Entries, Picks: c.script.Picks[:left]})
	c.say(nums("picks", left)...)
}

func (c *call) load() {
	x, _, e := script.Parse(c.loaded.String())
	works(e)
	c.become(c.setup, x)
	c.say("entries", num(len(x.Entries)), "picks", num(len(x.Picks)))
}

func (c *call) show() {
	text, e := script.Format(c.script)
	works(e)
	c.say(inLine(text))
}

func (c *call) result() {
	l, n := c.engine.Done(), c.numbers[0]
	must(n < len(l), api.ErrRange)
	text, e := script.FormatDone(l[n : n+1])
	works(e)
	c.say(inLine(text))
}

func (c *call) results() {
	n := len(c.engine.Done())
	c.say("done", num(n), "left", num(len(c.script.Entries)-n))
}

func (c *call) effort() {
	x, is := c.engine.Effort(c.numbers[0])
	must(is, api.ErrRange)
	c.say("picks", num(x.Picks), "tries", num(x.Tries), "taken", num(x.Taken), "met", num(x.Met))
}

func (c *call) stat() {
	s, is := c.engine.Stat(c.numbers[0])
	must(is, api.ErrNone)
	c.say(stat.Format(s))
}

func (c *call) pairs() {
	for _, t := range house.Of(c.engine).Tenants {
		if t.Number != c.numbers[0] {
			continue
		}
		words := []string{"pairs"}
		for _, p := range t.Pairs {
			words = append(words, script.Word(p.Key), script.Word(p.Value))
		}
		c.say(words...)
		return
	}
	works(api.ErrNone)
}

func (c *call) tenants() { c.say(nums("tenants", c.engine.Tenants()...)...) }
func (c *call) can()     { c.say(nums("can", c.engine.Can()...)...) }

func (c *call) room() {
	c.say("room", num(c.engine.Room()), "held", num(c.engine.Held()), "picks", num(c.engine.Picks()))
}

func (c *call) audit() {
	f, e := house.Audit(c.setup, c.script, c.engine.Done())
	works(e)
	what := [...]string{house.Fine: "fine", house.Times: "times", house.Order: "order", house.Scans: "scans", house.Alone: "alone"}[f.What]
	c.say(nums(what, f.Index, int(f.Err))...)
}

func (c *call) spy() {
	n, e := house.Spy(c.setup, c.script, c.numbers[0])
	if e == api.ErrDiffer {
		c.say(nums("differs", n)...)
		return
	}
	works(e)
	c.say(nums("same", n)...)
}

func (c *call) search() {
	l, e := order.Search(c.script.Entries, c.engine.Done())
	works(e)
	c.say(nums("order", l...)...)
}

func (c *call) report() {
	text, e := house.Format(house.Of(c.engine))
	works(e)
	c.say(inLine(text))
}
