package house_test

import (
	"math"
	"reflect"
	"strings"
	"testing"

	"burgage/api"
	"burgage/house"
)

const (
	statText = "keys 1 bytes 2 gets 0 puts 0 deletes 0 swaps 0 scans 0 hits 0 refused 0 pairs 0 load 3ff0000000000000 0000000000000000"
	lastLine = "left 1 picks 2 room 3\n"
)

// full returns a report with everything that a report can have, and its text.
func full() (house.Report, string) {
	s := api.Stat{Keys: 1, Bytes: 2, Load: 1}
	return house.Report{
		Done:    []api.Done{{Entry: 1, From: 2, At: 3, To: 4, Answer: api.Answer{Value: "x"}}, {Answer: api.Answer{Err: 5}}},
		Tenants: []house.Tenant{{Number: 2, Stat: s, Pairs: []api.Pair{{}, {Key: "a b", Value: "x"}}}, {Number: 16, Stat: s}},
		Left:    1, Picks: 2, Room: 3,
	}, "1 2 3 4 value x\n0 0 0 0 error 5\ntenant 2 " + statText + "\npair - -\npair a%20b x\ntenant 16 " + statText + "\n" + lastLine
}

func TestTexts(t *testing.T) {
	r, text := full()
	for want, r := range map[string]house.Report{text: r, lastLine: {Left: 1, Picks: 2, Room: 3}, "left 0 picks 999999999 room 0\n": {Picks: 999999999}} {
		if got, e := house.Format(r); got != want || e != api.OK {
			t.Errorf("%q, %d", got, e)
		}
		if got, i, e := house.Parse(want); !reflect.DeepEqual(got, r) || i != 0 || e != api.OK {
			t.Error(got, i, e)
		}
	}
}

func TestFormatErrors(t *testing.T) {
	for i, c := range []struct {
		change func(*house.Report)
		want   api.Errno
	}{
		{func(r *house.Report) { r.Tenants[0].Number = 0 }, api.ErrShape},
		{func(r *house.Report) { r.Tenants[1].Number = 17 }, api.ErrShape},
		{func(r *house.Report) { r.Tenants[1].Number = 2 }, api.ErrShape},
		{func(r *house.Report) { r.Tenants[0].Number = -1 }, api.ErrShape},
		{func(r *house.Report) { r.Tenants[1].Stat.Load = 3 }, api.ErrShape},
		{func(r *house.Report) { r.Tenants[1].Stat.Load = complex(math.NaN(), 0) }, api.ErrShape},
		{func(r *house.Report) { r.Tenants[0].Pairs[1].Key = "" }, api.ErrShape},
		{func(r *house.Report) { r.Left = -1 }, api.ErrShape},
		{func(r *house.Report) { r.Picks = 1000000000 }, api.ErrShape},
		{func(r *house.Report) { r.Room = -1 }, api.ErrShape},
		{func(r *house.Report) { r.Done[0].Entry = -1 }, api.ErrShape},
		{func(r *house.Report) { r.Done = make([]api.Done, api.MaxEntries+1); r.Left = -1 }, api.ErrLong},
		{func(r *house.Report) { r.Done[0].Answer.Value = strings.Repeat("v", api.MaxScript); r.Left = -1 }, api.ErrLong},
		{func(r *house.Report) { r.Tenants[0].Pairs[1].Value = strings.Repeat("v", 1<<22); r.Left = -1 }, api.ErrShape},
		{func(r *house.Report) { r.Tenants[0].Pairs[1].Value = strings.Repeat("v", 1<<22) }, api.ErrLong},
	} {
		r, _ := full()
		c.change(&r)
		if text, e := house.Format(r); text != "" || e != c.want {
			t.Error(i, len(text), e)
		}
	}
	r, text := full()
	r.Tenants[0].Pairs[1].Value = strings.Repeat("v", 1<<22-len(text)+1)
	long, e := house.Format(r)
	if len(long) != 1<<22 || e != api.OK {
		t.Error(len(long), e)
	}
	if got, _, e := house.Parse(long); !reflect.DeepEqual(got, r) || e != api.OK {
		t.Error(e)
	}
	r.Tenants[0].Pairs[1].Value += "v"
	if long, e := house.Format(r); long != "" || e != api.ErrLong {
		t.Error(len(long), e)
	}
}

func TestWrongTexts(t *testing.T) {
	wrong := func(text string, want int, errno api.Errno) {
		t.Helper()
		if r, i, e := house.Parse(text); !reflect.DeepEqual(r, house.Report{}) || i != want || e != errno {
			t.Errorf("%.80q: %d, %d", text, i, e)
		}
	}
	tenant := "tenant 2 " + statText + "\n"
	_, text := full()
	wrong("", 0, api.ErrSyntax)
	wrong(tenant, 1, api.ErrSyntax)
	wrong(strings.TrimSuffix(text, lastLine), 6, api.ErrSyntax)
	wrong(strings.TrimSuffix(text, "\n"), 6, api.ErrSyntax)
	wrong(text+"\n", 7, api.ErrSyntax)
	wrong(text+lastLine, 7, api.ErrSyntax)
	wrong(text+"x", 7, api.ErrSyntax)
	for _, l := range []string{"\n", "x\n", "left\n", "left 1 picks 2 room\n", "left 1 picks 2 room 03\n", "left 1 picks 2 room 3 \n", "left 1 picks 2 room 1000000000\n", "left -1 picks 2 room 3\n", "left 1 room 2 picks 3\n", "tenant\n", "tenant 2\n", "tenant 0 " + statText + "\n", "tenant 17 " + statText + "\n", "tenant 02 " + statText + "\n", "tenant 2 " + statText + " \n", "tenant 2 " + strings.Replace(statText, "3ff", "4ff", 1) + "\n", "pair a b\n", "0 0 0 0 ok \n", "0 0 0 ok\n", "picks 1\n"} {
		wrong(l+lastLine, 0, api.ErrSyntax)
		wrong("0 0 0 0 ok\n"+l+lastLine, 1, api.ErrSyntax)
	}
	for _, l := range []string{"0 0 0 0 ok\n", tenant, "tenant 1 " + statText + "\n", "pair\n", "pair a\n", "pair a \n", "pair a b c\n", "pair a/ b\n", "pair a b"} {
		wrong(tenant+l+lastLine, 1, api.ErrSyntax)
	}
	wrong(tenant+"pair b x\npair a x\n"+lastLine, 2, api.ErrSyntax)
	wrong(tenant+"pair b x\npair b y\n"+lastLine, 2, api.ErrSyntax)
	wrong(strings.Repeat("x", 1<<22+1), 0, api.ErrLong)
	wrong(strings.Repeat("x", 1<<22), 0, api.ErrSyntax)
	wrong("0 0 0 0 value "+strings.Repeat("v", api.MaxScript)+"\n"+lastLine, 0, api.ErrSyntax)
	many := strings.Repeat("0 0 0 0 ok\n", api.MaxEntries)
	wrong(many+"0 0 0 0 ok\n"+lastLine, api.MaxEntries, api.ErrLong)
	wrong(many+"0 0 0 0 no\n"+lastLine, api.MaxEntries, api.ErrSyntax)
	if r, _, e := house.Parse(many + lastLine); len(r.Done) != api.MaxEntries || e != api.OK {
		t.Error(len(r.Done), e)
	}
}
