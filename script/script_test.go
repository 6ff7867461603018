package script_test

import (
	"math"
	"reflect"
	"strings"
	"testing"

	"burgage/api"
	"burgage/engine"
	"burgage/result"
	"burgage/sample"
	"burgage/script"
)

var rw = api.Handle{Tenant: 1, Gen: 1, Rights: 3}

func TestWords(t *testing.T) {
	for s, w := range map[string]string{"a b": "a%20b", "": "-", "-": "%2d", "aZ09._": "aZ09._", "\x00\xff": "%00%ff", "%": "%25", "\n": "%0a", "ä": "%c3%a4", "a/b": "a%2fb"} {
		if got := script.Word(s); got != w {
			t.Errorf("%q: %q", s, got)
		}
		if got, e := script.Unword(w); got != s || e != api.OK {
			t.Errorf("%q: %q, %d", w, got, e)
		}
	}
	for i := range 256 {
		s := string([]byte{byte(i)})
		if got, e := script.Unword(script.Word(s)); got != s || e != api.OK {
			t.Error(i, got, e)
		}
	}
	for _, w := range []string{"", "--", "a-", "-a", "a%2Fb", "%61", "a%2", "%", "%2", "%zz", "%2z", "%z2", "a b", " ", "\n", "%2d%", "%20 ", "ä", "%5F", "%5f", "\x00"} {
		if got, e := script.Unword(w); got != "" || e != api.ErrSyntax {
			t.Errorf("%q: %q, %d", w, got, e)
		}
	}
}

func TestRequests(t *testing.T) {
	s := api.Handle{Tenant: 2, Gen: 10, Rights: api.Walk}
	for text, r := range map[string]api.Request{
		"get 1.1.rw key":                        {Deed: api.Get, Handle: rw, Key: "key"},
		"put 1.1.rw key -":                      {Deed: api.Put, Handle: rw, Key: "key"},
		"put 1.1.rw - %2d":                      {Deed: api.Put, Handle: rw, Value: "-"},
		"delete 1.1.rw a%20b":                   {Deed: api.Delete, Handle: rw, Key: "a b"},
		"swap 1.1.rw k old new":                 {Deed: api.Swap, Handle: rw, Key: "k", Old: "old", Value: "new"},
		"scan 2.10.s - 10":                      {Deed: api.Scan, Handle: s, Limit: 10},
		"scan 2.10.s k 999999999":               {Deed: api.Scan, Handle: s, Key: "k", Limit: 999999999},
		"tell 1.1.rw":                           {Deed: api.Tell, Handle: rw},
		"create 3 100 18446744073709551615":     {Deed: api.Create, Tenant: 3, Quota: api.Limits{Keys: 100, Bytes: math.MaxUint64}},
		"create 0 0 0":                          {Deed: api.Create},
		"remove 999999999":                      {Deed: api.Remove, Tenant: 999999999},
		"issue 3 rs":                            {Deed: api.Issue, Tenant: 3, Rights: 5},
		"revoke 3":                              {Deed: api.Revoke, Tenant: 3},
		"get 1.1.rw " + strings.Repeat("k", 99): {Deed: api.Get, Handle: rw, Key: strings.Repeat("k", 99)},
	} {
		if got, e := script.ShowRequest(r); got != text || e != api.OK {
			t.Errorf("%v: %q, %d", r, got, e)
		}
		if got, e := script.ReadRequest(text); got != r || e != api.OK {
			t.Errorf("%q: %v, %d", text, got, e)
		}
	}
}

func TestWrongRequests(t *testing.T) {
	for _, s := range []string{"", " ", "get", "get 1.1.rw", "get 1.1.rw ", "get 1.1.rw a b", "get 1.1.rw a ", " get 1.1.rw a", "get  1.1.rw a", "Get 1.1.rw a", "get 1.1.wr a", "get 1.1. a", "get 17.1.r a", "get 1.1.rw a\n", "put 1.1.rw a", "put 1.1.rw  a", "scan 1.1.s a", "scan 1.1.s a -1", "scan 1.1.s a 01", "scan 1.1.s a 1000000000", "scan 1.1.s a x", "create 1 1", "create 1 1 18446744073709551616", "create -1 1 1", "create 1 01 1", "issue 1", "issue 1 sr", "issue 1 -", "issue 1 rr", "issue 1 x", "remove", "remove 1000000000", "remove 1 2", "dance", "picks 1", "0 get 1.1.r a", "tell 1.1.r a"} {
		if r, e := script.ReadRequest(s); r != (api.Request{}) || e != api.ErrSyntax {
			t.Errorf("%q: %v, %d", s, r, e)
		}
	}
	for _, r := range []api.Request{
		{}, {Deed: -1}, {Deed: 11}, {Deed: api.Get}, {Deed: api.Get, Handle: rw, Value: "x"}, {Deed: api.Get, Handle: rw, Old: "x"}, {Deed: api.Get, Handle: rw, Limit: 1}, {Deed: api.Get, Handle: rw, Tenant: 1},
		{Deed: api.Put, Handle: rw, Quota: api.Limits{Keys: 1}}, {Deed: api.Put, Handle: rw, Rights: 1}, {Deed: api.Put, Handle: api.Handle{Tenant: 17, Gen: 1, Rights: 1}},
		{Deed: api.Scan, Handle: rw, Limit: -1}, {Deed: api.Scan, Handle: rw, Limit: 1000000000}, {Deed: api.Create, Handle: rw}, {Deed: api.Create, Tenant: -1}, {Deed: api.Issue, Tenant: 1}, {Deed: api.Issue, Tenant: 1, Rights: 8}, {Deed: api.Remove, Key: "k"},
	} {
		if s, e := script.ShowRequest(r); s != "" || e != api.ErrShape {
			t.Errorf("%v: %q, %d", r, s, e)
		}
	}
}

const statText = "keys 1 bytes 0 gets 0 puts 0 deletes 0 swaps 0 scans 0 hits 0 refused 0 pairs 0 load 3ff0000000000000 0000000000000000"

func TestAnswers(t *testing.T) {
	for text, a := range map[string]api.Answer{
		"ok":               {},
		"error 5":          {Err: api.ErrNone},
		"error 999999999":  {Err: 999999999},
		"value x":          {Value: "x"},
		"value %2d":        {Value: "-"},
		"pairs a 1 b -":    {Pairs: []api.Pair{{Key: "a", Value: "1"}, {Key: "b"}}},
		"pairs - -":        {Pairs: []api.Pair{{}}},
		"handle 1.1.rw":    {Handle: rw},
		"stat " + statText: {Stat: api.Stat{Keys: 1, Load: 1}},
	} {
		if got, e := script.ShowAnswer(a); got != text || e != api.OK {
			t.Errorf("%v: %q, %d", a, got, e)
		}
		if got, e := script.ReadAnswer(text); !reflect.DeepEqual(got, a) || e != api.OK {
			t.Errorf("%q: %v, %d", text, got, e)
		}
	}
	zero := strings.NewReplacer("keys 1", "keys 0", "3ff", "000").Replace(statText)
	for _, s := range []string{"", " ", "ok ", " ok", "ok ok", "error", "error 0", "error -1", "error 01", "error 1000000000", "error 5 5", "value", "value -", "value ", "value a b", "pairs", "pairs a", "pairs a 1 b", "pairs a 1 ", "pairs  a", "handle", "handle 1.1.", "handle 1.1.r r", "stat", "stat " + zero, "stat " + statText + " ", "stat " + statText[1:], "stat " + strings.Replace(statText, "3ff", "4ff", 1), "done", "Ok", "ok\n"} {
		if a, e := script.ReadAnswer(s); !reflect.DeepEqual(a, api.Answer{}) || e != api.ErrSyntax {
			t.Errorf("%q: %v, %d", s, a, e)
		}
	}
	for _, a := range []api.Answer{
		{Err: -1}, {Err: 1000000000}, {Err: 1, Value: "x"}, {Err: 1, Pairs: []api.Pair{{}}}, {Err: 1, Handle: rw}, {Err: 1, Stat: api.Stat{Keys: 1}}, {Value: "x", Pairs: []api.Pair{{}}}, {Value: "x", Handle: rw}, {Value: "x", Stat: api.Stat{Keys: 1}}, {Pairs: []api.Pair{{}}, Handle: rw}, {Pairs: []api.Pair{{}}, Stat: api.Stat{Keys: 1}}, {Handle: rw, Stat: api.Stat{Keys: 1}}, {Handle: api.Handle{Tenant: 17, Gen: 1, Rights: 1}}, {Stat: api.Stat{Load: 3}}, {Stat: api.Stat{Load: complex(math.NaN(), 0)}},
	} {
		if s, e := script.ShowAnswer(a); s != "" || e != api.ErrShape {
			t.Errorf("%v: %q, %d", a, s, e)
		}
	}
}

const scriptText = "0 create 1 9 90\npicks 0 -1\n1 get 1.1.r a\npicks 5\n"

func TestScriptExample(t *testing.T) {
	s, i, e := script.Parse(scriptText)
	want := api.Script{Entries: []api.Entry{
		{Session: 0, Request: api.Request{Deed: api.Create, Tenant: 1, Quota: api.Limits{Keys: 9, Bytes: 90}}},
		{Session: 1, Request: api.Request{Deed: api.Get, Handle: api.Handle{Tenant: 1, Gen: 1, Rights: 1}, Key: "a"}},
	}, Picks: []int{0, -1, 5}}
	if !reflect.DeepEqual(s, want) || i != 0 || e != api.OK {
		t.Error(s, i, e)
	}
	if text, e := script.Format(s); text != "0 create 1 9 90\n1 get 1.1.r a\npicks 0 -1 5\n" || e != api.OK {
		t.Errorf("%q, %d", text, e)
	}
	if s, i, e := script.Parse(""); !reflect.DeepEqual(s, api.Script{}) || i != 0 || e != api.OK {
		t.Error(s, i, e)
	}
	if text, e := script.Format(api.Script{}); text != "" || e != api.OK {
		t.Error(text, e)
	}
}

func TestPickLines(t *testing.T) {
	s := api.Script{Picks: []int{math.MaxInt, math.MinInt}}
	for range 31 {
		s.Picks = append(s.Picks, 7)
	}
	want := "picks 9223372036854775807 -9223372036854775808" + strings.Repeat(" 7", 14) + "\npicks" + strings.Repeat(" 7", 16) + "\npicks 7\n"
	text, e := script.Format(s)
	if text != want || e != api.OK {
		t.Errorf("%q, %d", text, e)
	}
	if got, _, e := script.Parse(text); !reflect.DeepEqual(got, s) || e != api.OK {
		t.Error(got, e)
	}
}

func wrongScript(t *testing.T, text string, want int, errno api.Errno) {
	t.Helper()
	if s, i, e := script.Parse(text); !reflect.DeepEqual(s, api.Script{}) || i != want || e != errno {
		t.Errorf("%.60q: %d, %d", text, i, e)
	}
}

func TestWrongScripts(t *testing.T) {
	for _, s := range []string{"0 get 1.1.r a", "\n", " \n", "picks\n", "picks \n", "picks 1 \n", "picks 01\n", "picks -0\n", "picks +1\n", "picks 9223372036854775808\n", "picks  1\n", "get 1.1.r a\n", "0 get 1.1.r\n", "-1 get 1.1.r a\n", "00 get 1.1.r a\n", "1000000000 get 1.1.r a\n", "0  get 1.1.r a\n", "0\n", "x\n", "0 dance\n", "0 get 1.1.r a\r\n", "picks 1"} {
		wrongScript(t, s, 0, api.ErrSyntax)
		wrongScript(t, scriptText+s, 4, api.ErrSyntax)
	}
	wrongScript(t, scriptText+"\n", 4, api.ErrSyntax)
	wrongScript(t, strings.Repeat("x", api.MaxScript+1), 0, api.ErrLong)
	wrongScript(t, strings.Repeat("x", api.MaxScript), 0, api.ErrSyntax)
	many := strings.Repeat("0 remove 1\n", api.MaxEntries)
	wrongScript(t, many+"picks 1\n0 remove 1\n", api.MaxEntries+1, api.ErrLong)
	wrongScript(t, many+"0 remove x\n", api.MaxEntries, api.ErrSyntax)
	picks := strings.Repeat("picks"+strings.Repeat(" 1", 64)+"\n", api.MaxPicks/64)
	if s, _, e := script.Parse(picks); len(s.Picks) != api.MaxPicks || e != api.OK {
		t.Error(len(s.Picks), e)
	}
	wrongScript(t, picks+"0 remove 1\npicks 1\n", api.MaxPicks/64+1, api.ErrLong)
	wrongScript(t, picks+"picks x\n", api.MaxPicks/64, api.ErrSyntax)
}

func TestFormatErrors(t *testing.T) {
	good, bad := api.Entry{Request: api.Request{Deed: api.Remove}}, api.Entry{Session: -1}
	format := func(s api.Script, want api.Errno) {
		t.Helper()
		if text, e := script.Format(s); text != "" || e != want {
			t.Error(len(text), e)
		}
	}
	format(api.Script{Entries: make([]api.Entry, api.MaxEntries+1)}, api.ErrLong)
	format(api.Script{Entries: []api.Entry{bad}, Picks: make([]int, api.MaxPicks+1)}, api.ErrLong)
	long := api.Script{Entries: []api.Entry{good}, Picks: make([]int, api.MaxPicks)}
	for i := range long.Picks {
		long.Picks[i] = math.MinInt
	}
	format(long, api.ErrLong)
	for _, x := range []api.Entry{bad, {Request: api.Request{Deed: api.Get}}, {Session: 1000000000, Request: good.Request}, {}} {
		long.Entries = []api.Entry{good, x}
		format(long, api.ErrShape)
	}
	exact := api.Script{Entries: []api.Entry{{Request: api.Request{Deed: api.Get, Handle: rw, Key: strings.Repeat("k", api.MaxScript-14)}}}}
	text, e := script.Format(exact)
	if len(text) != api.MaxScript || e != api.OK {
		t.Error(len(text), e)
	}
	if s, _, e := script.Parse(text); !reflect.DeepEqual(s, exact) || e != api.OK {
		t.Error(e)
	}
	exact.Entries[0].Request.Key += "k"
	format(exact, api.ErrLong)
}

func TestDones(t *testing.T) {
	d := []api.Done{{Entry: 1, From: 2, At: 3, To: 999999999, Answer: api.Answer{Value: "x"}}, {Answer: api.Answer{Err: 7}}}
	text := "1 2 3 999999999 value x\n0 0 0 0 error 7\n"
	if got, e := script.FormatDone(d); got != text || e != api.OK {
		t.Errorf("%q, %d", got, e)
	}
	if got, i, e := script.ParseDone(text); !reflect.DeepEqual(got, d) || i != 0 || e != api.OK {
		t.Error(got, i, e)
	}
	if got, e := script.FormatDone(nil); got != "" || e != api.OK {
		t.Error(got, e)
	}
	for _, x := range []api.Done{{Entry: -1}, {From: -1}, {At: 1000000000}, {To: -1}, {Answer: api.Answer{Err: 1, Value: "x"}}} {
		if got, e := script.FormatDone([]api.Done{{}, x}); got != "" || e != api.ErrShape {
			t.Error(got, e)
		}
	}
	if got, e := script.FormatDone(make([]api.Done, api.MaxEntries+1)); got != "" || e != api.ErrLong {
		t.Error(got, e)
	}
	long := api.Done{Answer: api.Answer{Value: strings.Repeat("v", api.MaxScript-14)}}
	if got, e := script.FormatDone([]api.Done{long}); len(got) != 0 || e != api.ErrLong {
		t.Error(len(got), e)
	}
	if got, e := script.FormatDone([]api.Done{long, {Entry: -1}}); len(got) != 0 || e != api.ErrShape {
		t.Error(len(got), e)
	}
	long.Answer.Value = long.Answer.Value[1:]
	if got, e := script.FormatDone([]api.Done{long}); len(got) != api.MaxScript || e != api.OK {
		t.Error(len(got), e)
	}
}

func TestWrongDones(t *testing.T) {
	wrong := func(text string, want int, errno api.Errno) {
		t.Helper()
		if d, i, e := script.ParseDone(text); len(d) != 0 || i != want || e != errno {
			t.Errorf("%.60q: %d, %d", text, i, e)
		}
	}
	good := "0 0 0 0 ok\n"
	for _, s := range []string{"0 0 0 0 ok", "\n", "0 0 0 ok\n", "0 0 0 0\n", "0 0 0 0 0 ok\n", "-1 0 0 0 ok\n", "0 0 0 00 ok\n", "0 0 0 1000000000 ok\n", "0 0 0 0 maybe\n", "0 0 0 0  ok\n", "picks 1\n"} {
		wrong(s, 0, api.ErrSyntax)
		wrong(good+s, 1, api.ErrSyntax)
	}
	many := strings.Repeat(good, api.MaxEntries)
	if d, _, e := script.ParseDone(many); len(d) != api.MaxEntries || e != api.OK {
		t.Error(len(d), e)
	}
	wrong(many+good, api.MaxEntries, api.ErrLong)
	wrong(many+"x\n", api.MaxEntries, api.ErrSyntax)
	wrong(strings.Repeat("x", api.MaxScript+1), 0, api.ErrLong)
}

func TestTextsOfRuns(t *testing.T) {
	for seed := range 60 {
		s := sample.Script(seed, 5, 40, 900)
		kept := s.Entries[:0:0]
		for _, x := range s.Entries {
			if _, e := script.ShowRequest(x.Request); e == api.OK {
				kept = append(kept, x)
			}
		}
		s.Entries = kept
		text, e := script.Format(s)
		if e != api.OK {
			t.Fatal(seed, e)
		}
		if back, _, e := script.Parse(text); !reflect.DeepEqual(back, s) || e != api.OK {
			t.Error(seed, e)
		}
		if strings.Trim(text, "abcdefghijklmnopqrstuvwxyzABCDEFGHIJKLMNOPQRSTUVWXYZ0123456789 \n._-%") != "" {
			t.Error(text)
		}
		d, _ := engine.Run(200, 5, 12, s)
		text, e = script.FormatDone(d)
		if e != api.OK {
			t.Fatal(seed, e)
		}
		back, _, e := script.ParseDone(text)
		if n, differ := result.Differ(back, d); differ || e != api.OK {
			t.Error(seed, n, e)
		}
	}
}
