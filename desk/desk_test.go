package desk_test

import (
	"math"
	"reflect"
	"strconv"
	"strings"
	"testing"

	"burgage/api"
	"burgage/desk"
	"burgage/engine"
	"burgage/house"
	"burgage/result"
	"burgage/sample"
	"burgage/script"
)

// told tells a desk lines with their answers behind =>; error N is an error.
func told(t *testing.T, d *desk.Desk, l ...string) {
	t.Helper()
	for _, x := range l {
		line, want, _ := strings.Cut(x, " => ")
		got, e := d.Do(line)
		if e != api.OK {
			got = "error " + strconv.Itoa(int(e))
		}
		if got != want {
			t.Errorf("%q: %q is not %q", line, got, want)
		}
	}
}

// first returns a desk that has been told the first lines.
func first(t *testing.T) *desk.Desk {
	t.Helper()
	d := desk.New()
	told(t, d, "open 40 2 12 => ready", "ask 0 create 1 2 9 => entry 0")
	return d
}

func TestExamplesOfTheWhole(t *testing.T) {
	told(t, first(t),
		"ask 0 put 1.1.w a 1234 => entry 1", "ask 0 put 1.1.w b 123 => entry 2", "ask 0 put 1.1.w c - => entry 3", "finish => picks 37",
		"result 3 => 3 25 30 36 error 10", "pairs 1 => pairs a 1234 b 123")
	told(t, first(t),
		"ask 1 get 1.1.r a => entry 1", "pick 1 1 => job 1 session 1 began / job 1 session 1", "finish => picks 11",
		"result 0 => 0 2 2 2 ok", "result 1 => 1 0 0 12 error 11")
	d := first(t)
	told(t, d,
		"ask 0 put 1.1.w a x => entry 1", "ask 1 put 1.1.w b y => entry 2",
		"pick 0 0 1 0 1 0 1 0 1 0 1 0 => job 0 session 0 began ended / job 1 session 0 began / job 2 session 1 began / job 1 session 0 / job 2 session 1 / job 1 session 0 / job 2 session 1 / job 1 session 0 / job 2 session 1 / job 1 session 0 / job 2 session 1 / job 1 session 0",
		"room => room 38 held 1 picks 12", "effort 2 => picks 5 tries 1 taken 1 met 1")
	told(t, d, "finish => picks 13", "result 0 => 0 0 0 0 ok", "pairs 1 => pairs a x b y", "search => order 0 1 2")
	told(t, first(t),
		"ask 0 put 1.1.w a x => entry 1", "ask 1 revoke 1 => entry 2",
		"pick 0 0 0 0 1 => job 0 session 0 began ended / job 1 session 0 began / job 1 session 0 / job 1 session 0 / job 2 session 1 began ended",
		"finish => picks 9", "result 2 => 1 1 7 13 error 11", "pairs 1 => pairs", "room => room 39 held 0 picks 14")
	told(t, desk.New(),
		"open 2 1 12 => ready", "ask 0 create 1 9 90 => entry 0", "ask 0 put 1.1.w a x => entry 1", "ask 0 put 1.1.w b y => entry 2",
		"finish => picks 25", "result 2 => 2 13 18 24 error 14")
	told(t, desk.New(),
		"open 9 1 2 => ready", "ask 0 create 1 9 90 => entry 0", "ask 0 put 1.1.w a x => entry 1", "finish => picks 3",
		"result 1 => 1 1 2 2 error 13", "audit => fine 2 0")
	told(t, first(t),
		"ask 0 issue 1 rs => entry 1", "ask 0 scan 1.1.rs - 3 => entry 2", "finish => picks 50",
		"result 1 => 1 1 1 1 handle 1.1.rs", "result 2 => 2 2 5 49 ok")
	told(t, first(t),
		"ask 0 remove 1 => entry 1", "ask 0 create 1 1 1 => entry 2", "ask 0 get 1.1.r a => entry 3", "ask 0 get 1.2.r a => entry 4",
		"finish => picks 27", "result 3 => 3 3 3 14 error 11", "result 4 => 4 15 18 26 error 5")
	told(t, first(t),
		"finish => picks 1",
		"report => 0 0 0 0 ok / tenant 1 keys 0 bytes 0 gets 0 puts 0 deletes 0 swaps 0 scans 0 hits 0 refused 0 pairs 0 load 0000000000000000 0000000000000000 / left 0 picks 1 room 39")
}

func TestExampleOne(t *testing.T) {
	told(t, desk.New(),
		"open 40 2 12 => ready",
		"ask 0 create 1 9 90 => entry 0",
		"ask 0 put 1.1.w a x => entry 1",
		"ask 1 get 1.1.r a => entry 2",
		"pick 0 0 1 => job 0 session 0 began ended / job 1 session 0 began / job 2 session 1 began",
		"finish => picks 22",
		"result 2 => 2 2 20 24 value x",
		"audit => fine 3 0",
		"back 24 => picks 1",
		"can => can 0 1",
		"room => room 39 held 0 picks 1")
}

func TestErrorsOfLines(t *testing.T) {
	d := desk.New()
	told(t, d, "can => error 15", "dance => error 40", "open 0 1 2 => error 2", "open 1 2 => error 7", "can x => error 15", "close x => error 7", "close => ok", "open 41 2 12 => ready", "close => ok", "room => error 15")
	for _, l := range []string{"", " ", " can", "can ", "can  ", "open  1 1 2", "Can", "can\n", "\ncan", "open 1 1 2\n", "open 1\n1 2"} {
		told(t, d, l+" => error 40")
	}
	told(t, d, "open 40 2 12 => ready")
	for _, l := range []string{"open", "open 1 1 2 3", "open 01 1 2", "open -1 1 2", "open 1000000000 1 2", "close 1", "ask", "ask 0", "ask 0 get", "ask x get 1.1.r a", "ask 0 dance", "ask 0 get 1.1.r a b", "ask 00 get 1.1.r a", "pick", "pick x", "pick 01", "pick -0", "pick 9223372036854775808", "finish 1", "back", "back -1", "back 1 1", "load", "load /", "load picks", "load / picks 1", "load picks 1 /", "load picks 1 / / picks 1", "script 1", "result", "result -1", "results 1", "effort", "stat", "stat x", "pairs", "tenants 1", "can 1", "room 1", "audit 1", "spy", "search 1", "report 1"} {
		told(t, d, l+" => error 7")
	}
	told(t, d, "open 0 1 2 => error 2", "open 1 65 2 => error 2", "open 1 1 1 => error 2", "room => room 40 held 0 picks 0")
}

func TestAsk(t *testing.T) {
	d := first(t)
	told(t, d, "ask 2 get 1.1.r a => error 6", "ask 1 get 1.1.r a => entry 1", "pick 0 => job 0 session 0 began ended", "ask 0 get 1.1.r a => error 15", "ask 9 get 1.1.r a => error 15", "back 1 => picks 0", "ask 0 get 1.1.r a => entry 2")
	for n := 3; n < api.MaxEntries; n++ {
		told(t, d, "ask 0 remove 2 => entry "+strconv.Itoa(n))
	}
	told(t, d, "ask 0 remove 2 => error 14", "results => done 0 left 4096")
}

func TestPicks(t *testing.T) {
	d := first(t)
	told(t, d, "pick 0 5 -1 => job 0 session 0 began ended / none / none", "pick 9223372036854775807 -9223372036854775808 => none / none", "room => room 39 held 0 picks 5", "finish => picks 0", "back 6 => error 6", "back 0 => picks 5", "back 5 => picks 0", "back 1 => error 6", "can => can 0", "tenants => tenants", "finish => picks 1", "tenants => tenants 1")
	most := "pick" + strings.Repeat(" 0", api.MaxPicks-1)
	if _, e := d.Do(most); e != api.OK {
		t.Error(e)
	}
	told(t, d, "pick 0 => error 3", "room => room 39 held 0 picks 65536", "finish => picks 0")
	d = desk.New()
	told(t, d, "open 9 2 4096 => ready", "ask 0 scan 1.1.s a 15 => entry 0", "ask 1 tell 1.1.r => entry 1", "finish => error 3", "room => room 9 held 0 picks 0")
}

func TestLoadAndScript(t *testing.T) {
	d := desk.New()
	told(t, d, "open 40 2 12 => ready", "script => ", "load 0 create 1 9 90 / picks 0 -1 / 1 get 1.1.r a / picks 5 => entries 2 picks 3",
		"script => 0 create 1 9 90 / 1 get 1.1.r a / picks 0 -1 5", "results => done 1 left 1", "tenants => tenants 1",
		"load 2 remove 1 => error 6", "load 0 dance => error 7", "results => done 1 left 1", "load picks 1 => entries 0 picks 1", "script => picks 1")
	long := "load" + strings.Repeat(" picks 0 /", 70000) + " picks 0"
	told(t, d, long+" => error 3", "script => picks 1")
	told(t, d, "load 0 create 1 9 90 / 0 put 1.1.w "+strings.Repeat("k", 300)+" - => entries 2 picks 0", "finish => picks 13", "result 1 => 1 1 1 12 error 2")
	key := strings.Repeat("%2d", 60000)
	told(t, d, "open 40 2 12 => ready", "ask 0 get 1.1.r "+key+" => entry 0", "ask 0 get 1.1.r "+key+" => entry 1", "script => error 3")
}

func TestQuestions(t *testing.T) {
	d := first(t)
	told(t, d, "ask 0 put 1.1.w a%20b - => entry 1", "ask 1 tell 1.1.r => entry 2", "audit => error 15",
		"result 0 => error 6", "effort 3 => error 6", "effort 0 => picks 0 tries 0 taken 0 met 0", "stat 1 => error 5", "stat 0 => error 5", "pairs 1 => error 5", "pairs 99 => error 5", "spy 0 => error 2", "spy 17 => error 2", "spy 1 => same 0", "search => order",
		"finish => picks 14", "result 3 => error 6", "results => done 3 left 0", "pairs 1 => pairs a%20b -", "effort 1 => picks 6 tries 0 taken 0 met 0", "spy 1 => same 3", "spy 2 => same 0",
		"stat 1 => keys 1 bytes 3 gets 0 puts 1 deletes 0 swaps 0 scans 0 hits 1 refused 0 pairs 0 load 3ff0000000000000 3fe0000000000000",
		"result 2 => 2 13 13 13 stat keys 1 bytes 3 gets 0 puts 1 deletes 0 swaps 0 scans 0 hits 1 refused 0 pairs 0 load 0000000000000000 3ff0000000000000")
	d = desk.New()
	told(t, d, "open 1 1 2 => ready", "ask 0 create 1 9 90 => entry 0", "ask 0 create 2 9 90 => entry 1", "finish => picks 2", "spy 1 => error 14")
	d = desk.New()
	told(t, d, "open 9 1 2 => ready")
	for n := range 11 {
		told(t, d, "ask 0 remove 1 => entry "+strconv.Itoa(n))
	}
	told(t, d, "finish => picks 11", "search => error 3", "back 1 => picks 10", "search => order 0 1 2 3 4 5 6 7 8 9")
}

func TestRun(t *testing.T) {
	d := desk.New()
	if got := d.Run("open 40 2 12\ndance\n\nask 0 create 1 9 90\nask 0 create\nfinish\nscript\ncan"); got != "ready\nerror 40\nerror 40\nentry 0\nerror 7\npicks 1\n0 create 1 9 90 / picks 0\ncan\n" {
		t.Errorf("%q", got)
	}
	if got := d.Run(""); got != "" {
		t.Errorf("%q", got)
	}
	if got := d.Run("close\n" + strings.Repeat("x", api.MaxScript)); got != "" {
		t.Errorf("%q", got)
	}
	told(t, d, "tenants => tenants 1")
	text := "close\n" + strings.Repeat("x", api.MaxScript-6)
	if got := d.Run(text); got != "ok\nerror 40\n" {
		t.Errorf("%q", got)
	}
}

func TestScript(t *testing.T) {
	d := desk.New()
	if s, x, is := d.Script(); s != (house.Setup{}) || !reflect.DeepEqual(x, api.Script{}) || is {
		t.Error(s, x, is)
	}
	told(t, d, "open 40 2 12 => ready", "ask 1 remove 3 => entry 0", "pick 7 -7 => job 0 session 1 began ended / none")
	want := api.Script{Entries: []api.Entry{{Session: 1, Request: api.Request{Deed: api.Remove, Tenant: 3}}}, Picks: []int{7, -7}}
	s, x, is := d.Script()
	if s != (house.Setup{Slots: 40, Sessions: 2, Budget: 12}) || !reflect.DeepEqual(x, want) || !is {
		t.Error(s, x, is)
	}
	x.Entries[0].Session, x.Picks[0] = 9, 9
	if _, x, _ := d.Script(); !reflect.DeepEqual(x, want) {
		t.Error("shared memory")
	}
	told(t, d, "close => ok")
	if _, _, is := d.Script(); is {
		t.Error("it is closed")
	}
}

// TestADeskIsItsScript checks that a desk answers as a run of its script does, whatever lines it was told.
func TestADeskIsItsScript(t *testing.T) {
	for seed := range 60 {
		r := sample.From(seed)
		d := desk.New()
		told(t, d, "open 60 3 15 => ready")
		x := sample.Script(seed, 3, 20, 0)
		for _, e := range x.Entries {
			if text, errno := script.ShowRequest(e.Request); errno == api.OK {
				d.Do("ask " + strconv.Itoa(e.Session) + " " + text)
			}
		}
		for range 40 {
			switch r.Below(6) {
			case 0:
				d.Do("back " + strconv.Itoa(r.Below(20)))
			case 1:
				d.Do("effort " + strconv.Itoa(r.Below(30)))
				d.Do("spy 1")
				d.Do("load 9 remove 1")
				d.Do("ask 0 remove 1")
			default:
				d.Do("pick" + strings.Repeat(" "+strconv.Itoa(r.Below(100)), 1+r.Below(20)))
			}
			is(t, seed, d)
		}
		before := answers(d)
		d.Do("pick 1 2 3 1 2 3 4 5 6 7")
		after := answers(d)
		told(t, d, "back 10 => picks "+strconv.Itoa(picks(d)-10))
		if answers(d) != before {
			t.Error(seed, "what was taken back left a trace")
		}
		d.Do("pick 1 2 3 1 2 3 4 5 6 7")
		if answers(d) != after {
			t.Error(seed, "the same picks led to something else")
		}
		d.Do("finish")
		is(t, seed, d)
		if a, e := d.Do("audit"); !strings.HasPrefix(a, "fine ") || e != api.OK {
			t.Error(seed, a, e)
		}
	}
}

func picks(d *desk.Desk) int {
	_, x, _ := d.Script()
	return len(x.Picks)
}

// answers returns what a desk answers to all questions.
func answers(d *desk.Desk) string {
	text := "report\nroom\ncan\nscript\nresults\ntenants\n"
	for n := range 25 {
		text += "effort " + strconv.Itoa(n) + "\nresult " + strconv.Itoa(n) + "\nstat " + strconv.Itoa(n) + "\npairs " + strconv.Itoa(n) + "\n"
	}
	return d.Run(text)
}

// is checks the report of a desk against a run of its script.
func is(t *testing.T, seed int, d *desk.Desk) {
	t.Helper()
	s, x, _ := d.Script()
	r, e := house.Run(s, x)
	want, _ := house.Format(r)
	got, e2 := d.Do("report")
	if e != api.OK || e2 != api.OK || strings.ReplaceAll(got, " / ", "\n")+"\n" != want {
		t.Fatal(seed, e, e2, got)
	}
	done, _ := engine.Run(s.Slots, s.Sessions, s.Budget, x)
	if n, differ := result.Differ(done, r.Done); differ {
		t.Error(seed, n)
	}
}

func TestNil(t *testing.T) {
	for _, d := range []*desk.Desk{nil, {}} {
		if a, e := d.Do("dance"); a != "" || e != api.ErrNil {
			t.Error(a, e)
		}
		if a := d.Run("close\n"); a != "" {
			t.Error(a)
		}
		if s, x, is := d.Script(); s != (house.Setup{}) || !reflect.DeepEqual(x, api.Script{}) || is {
			t.Error(s, x, is)
		}
	}
}

func TestLinesOfAnyBytes(t *testing.T) {
	r := sample.From(1)
	d := desk.New()
	told(t, d, "open 40 2 12 => ready")
	for range 20000 {
		var l []string
		for range r.Below(6) {
			l = append(l, r.One("open", "ask", "pick", "back", "load", "result", "stat", "pairs", "spy", "search", "0", "1", "-1", "x", "get", "put", "1.1.w", "create", "/", "picks", "\x00", "%", strconv.Itoa(math.MaxInt), ""))
		}
		d.Do(strings.Join(l, " "))
	}
}
