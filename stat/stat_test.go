package stat_test

import (
	"math"
	"math/big"
	"math/rand"
	"slices"
	"strings"
	"testing"

	"burgage/api"
	"burgage/stat"
)

const top = math.MaxUint64

var (
	nan     = math.NaN()
	negZero = math.Copysign(0, -1)
	invalid = []api.Stat{{Load: 3}, {Load: -1i}, {Load: complex(nan, 0)}, {Load: complex(0, math.Inf(1)), Gets: 3}}
)

// full returns a Stat with all its numbers, in the order of its fields.
func full(load complex128, n ...uint64) api.Stat {
	return api.Stat{
		Keys: n[0], Bytes: n[1], Gets: n[2], Puts: n[3], Deletes: n[4], Swaps: n[5],
		Scans: n[6], Hits: n[7], Refused: n[8], Pairs: n[9], Load: load,
	}
}

func answer(e api.Errno, pairs int) api.Answer {
	return api.Answer{Err: e, Pairs: make([]api.Pair, pairs)}
}

func TestExample(t *testing.T) {
	s, is := stat.After(api.Stat{},
		stat.Event{Deed: api.Get}, stat.Event{Deed: api.Get, Answer: answer(api.ErrNone, 0)},
		stat.Event{Deed: api.Scan, Answer: answer(api.OK, 3)}, stat.Event{Deed: api.Put, Answer: answer(api.ErrQuota, 0)}, stat.Event{Deed: api.Tell})
	want := api.Stat{Gets: 2, Scans: 1, Puts: 1, Hits: 2, Refused: 1, Pairs: 3, Load: 1.4375 + 0.5i}
	if s != want || !is || stat.Rate(s) != 500 {
		t.Error(s, is, stat.Rate(s))
	}
}

func TestNext(t *testing.T) {
	base := api.Stat{Keys: 5, Bytes: 6, Gets: 1, Load: 1 + 1i}
	for d, want := range map[api.Deed]api.Stat{
		api.Get:    {Keys: 5, Bytes: 6, Gets: 2, Load: 1.5 + 0.5i},
		api.Put:    {Keys: 5, Bytes: 6, Gets: 1, Puts: 1, Load: 0.5 + 1.5i},
		api.Delete: {Keys: 5, Bytes: 6, Gets: 1, Deletes: 1, Load: 0.5 + 1.5i},
		api.Swap:   {Keys: 5, Bytes: 6, Gets: 1, Swaps: 1, Load: 0.5 + 1.5i},
		api.Scan:   {Keys: 5, Bytes: 6, Gets: 1, Scans: 1, Pairs: 2, Load: 1.5 + 0.5i},
	} {
		for e := api.OK; e <= api.ErrState; e++ {
			w := want
			switch e {
			case api.OK:
				w.Hits = 1
			case api.ErrQuota, api.ErrRevoked, api.ErrRights:
				w.Refused = 1
			}
			if s, is := stat.Next(base, d, answer(e, 2)); s != w || !is {
				t.Error(d, e, s, is)
			}
		}
	}
	want := api.Stat{Keys: 5, Bytes: 6, Gets: 1, Load: 1.5 + 0.5i}
	for e := api.OK; e <= api.ErrState; e++ {
		if s, is := stat.Next(base, api.Tell, answer(e, 2)); s != want || !is {
			t.Error(e, s, is)
		}
	}
}

func TestInvalid(t *testing.T) {
	if !stat.Is(api.Stat{}) || !stat.Is(api.Stat{Keys: top, Gets: top, Load: 2 + 2i}) {
		t.Error("a valid Stat")
	}
	for _, s := range invalid {
		if stat.Is(s) || stat.Format(s) != "" {
			t.Error(s)
		}
		for i, f := range []func() (api.Stat, bool){
			func() (api.Stat, bool) { return stat.Next(s, api.Get, api.Answer{}) },
			func() (api.Stat, bool) { return stat.After(s) },
			func() (api.Stat, bool) { return stat.After(s, stat.Event{Deed: api.Get}) },
			func() (api.Stat, bool) { return stat.Join(s, api.Stat{}) },
			func() (api.Stat, bool) { return stat.Join(api.Stat{}, s) },
			func() (api.Stat, bool) { return stat.Since(s, api.Stat{Gets: 9}) },
			func() (api.Stat, bool) { return stat.Since(api.Stat{}, s) },
		} {
			if x, is := f(); x != (api.Stat{}) || is {
				t.Error(i, x, is)
			}
		}
		if l := stat.Rank([]api.Stat{{}, s}); len(l) != 0 {
			t.Error(l)
		}
	}
	for _, d := range []api.Deed{0, -1, api.Create, api.Remove, api.Issue, api.Revoke, 11} {
		if x, is := stat.Next(api.Stat{Gets: 1}, d, api.Answer{}); x != (api.Stat{}) || is {
			t.Error(d, x, is)
		}
		if x, is := stat.After(api.Stat{}, stat.Event{Deed: api.Get}, stat.Event{Deed: d}, stat.Event{Deed: api.Get}); x != (api.Stat{}) || is {
			t.Error(d, x, is)
		}
	}
	if x, is := stat.After(api.Stat{Gets: 1}); x != (api.Stat{Gets: 1}) || !is {
		t.Error(x, is)
	}
}

func TestCountersStop(t *testing.T) {
	s := api.Stat{Scans: top, Hits: top, Pairs: top - 1}
	x, is := stat.Next(s, api.Scan, answer(api.OK, 3))
	if x != (api.Stat{Scans: top, Hits: top, Pairs: top, Load: 1}) || !is {
		t.Error(x, is)
	}
}

func TestWithAndFits(t *testing.T) {
	s := stat.With(api.Stat{Keys: 9, Gets: 1}, api.Limits{Keys: 2, Bytes: 3})
	if s != (api.Stat{Keys: 2, Bytes: 3, Gets: 1}) {
		t.Error(s)
	}
	for l, want := range map[api.Limits]bool{{Keys: 2, Bytes: 3}: true, {Keys: 3, Bytes: 9}: true, {Keys: 1, Bytes: 3}: false, {Keys: 2, Bytes: 2}: false} {
		if stat.Fits(s, l) != want {
			t.Error(l)
		}
	}
}

func TestRate(t *testing.T) {
	for i, c := range []struct {
		s    api.Stat
		want int
	}{
		{api.Stat{}, 0}, {api.Stat{Hits: 5}, 0}, {api.Stat{Gets: 3, Hits: 1}, 333}, {api.Stat{Gets: 1, Hits: 2}, 1000}, {api.Stat{Puts: 1, Hits: 1}, 1000},
		{api.Stat{Gets: 1, Puts: 1, Deletes: 1, Swaps: 1, Scans: 1, Hits: 3}, 600}, {api.Stat{Gets: top, Puts: top, Deletes: top, Swaps: top, Scans: top, Hits: top}, 200}, {api.Stat{Gets: top, Hits: top - 1}, 999},
	} {
		if n := stat.Rate(c.s); n != c.want {
			t.Error(i, n)
		}
	}
	r := rand.New(rand.NewSource(1))
	number := func() uint64 { return r.Uint64() >> r.Intn(64) }
	for range 10000 {
		s := api.Stat{Gets: number(), Puts: number(), Deletes: number(), Swaps: number(), Scans: number(), Hits: number()}
		all := new(big.Int)
		for _, n := range []uint64{s.Gets, s.Puts, s.Deletes, s.Swaps, s.Scans} {
			all.Add(all, new(big.Int).SetUint64(n))
		}
		if all.Sign() == 0 {
			continue
		}
		rate := new(big.Int).SetUint64(s.Hits)
		rate.Mul(rate, big.NewInt(1000)).Div(rate, all)
		want := 1000
		if rate.Cmp(big.NewInt(1000)) < 0 {
			want = int(rate.Int64())
		}
		if n := stat.Rate(s); n != want {
			t.Error(s, n, want)
		}
	}
}

func TestJoin(t *testing.T) {
	a, b := api.Stat{Gets: 2, Load: 1}, api.Stat{Gets: top, Load: 0.5 + 1i}
	for _, l := range [][2]api.Stat{{a, b}, {b, a}} {
		if s, is := stat.Join(l[0], l[1]); s != (api.Stat{Gets: top, Load: 1 + 1i}) || !is {
			t.Error(s, is)
		}
	}
	a = full(1.5+0.5i, 1, 2, 3, 4, 5, 6, 7, 8, 9, 10)
	if s, is := stat.Join(a, a); s != (full(1.5+0.5i, 2, 4, 6, 8, 10, 12, 14, 16, 18, 20)) || !is {
		t.Error(s, is)
	}
	if s, is := stat.Join(a, api.Stat{}); s != a || !is {
		t.Error(s, is)
	}
	if s, _ := stat.Join(api.Stat{Keys: top, Bytes: top - 1}, api.Stat{Keys: 1, Bytes: 2}); s.Keys != top || s.Bytes != top {
		t.Error(s)
	}
}

func TestSince(t *testing.T) {
	old := full(1, 1, 2, 3, 4, 5, 6, 7, 8, 9, 10)
	now := full(2i, 0, 1, 4, 6, 8, 10, 12, 14, 16, 18)
	if s, is := stat.Since(old, now); s != (full(2i, 0, 1, 1, 2, 3, 4, 5, 6, 7, 8)) || !is {
		t.Error(s, is)
	}
	if s, is := stat.Since(api.Stat{Gets: 5}, api.Stat{Gets: 3}); s != (api.Stat{}) || is {
		t.Error(s, is)
	}
	for i := range 8 {
		less := old
		*[]*uint64{&less.Gets, &less.Puts, &less.Deletes, &less.Swaps, &less.Scans, &less.Hits, &less.Refused, &less.Pairs}[i]--
		if s, is := stat.Since(old, less); s != (api.Stat{}) || is {
			t.Error(i, s, is)
		}
	}
}

func TestRank(t *testing.T) {
	l := []api.Stat{{Load: 1}, {Load: 1i}, {Load: 2}, {}, {Load: 1 + 1i}, {Load: complex(1, math.SmallestNonzeroFloat64)}}
	if got := stat.Rank(l); !slices.Equal(got, []int{2, 4, 5, 0, 1, 3}) {
		t.Error(got)
	}
	if got := stat.Rank(nil); len(got) != 0 {
		t.Error(got)
	}
}

const zeroText = "keys 0 bytes 0 gets 0 puts 0 deletes 0 swaps 0 scans 0 hits 0 refused 0 pairs 0 load 0000000000000000 0000000000000000"

func TestTexts(t *testing.T) {
	for text, s := range map[string]api.Stat{
		zeroText: {},
		strings.Replace(zeroText, "load 0000000000000000 0000000000000000", "load 3ff0000000000000 4000000000000000", 1):                            {Load: 1 + 2i},
		"keys 1 bytes 2 gets 3 puts 4 deletes 5 swaps 6 scans 7 hits 8 refused 9 pairs 18446744073709551615 load 0000000000000001 3fe0000000000000": full(complex(math.SmallestNonzeroFloat64, 0.5), 1, 2, 3, 4, 5, 6, 7, 8, 9, top),
	} {
		if got := stat.Format(s); got != text {
			t.Error(got)
		}
		if got, e := stat.Parse(text); got != s || e != api.OK {
			t.Error(got, e)
		}
	}
	if got := stat.Format(api.Stat{Load: complex(negZero, negZero)}); got != zeroText {
		t.Error(got)
	}
}

func TestWrongTexts(t *testing.T) {
	replaced := func(old, with string) string { return strings.Replace(zeroText, old, with, 1) }
	for _, s := range []string{"", " ", "keys", zeroText + " ", " " + zeroText, zeroText + " 0", replaced("keys", "Keys"), replaced("keys 0", "keys 00"), replaced("keys 0", "keys  0"), replaced("keys 0", "keys -0"), replaced("keys 0", "keys +0"), replaced("keys 0", "keys 18446744073709551616"), replaced("keys 0 bytes 0", "bytes 0 keys 0"), replaced("load", "laod"), replaced("00000000 ", "0000000 "), replaced("load 0", "load 00"), replaced("load 0", "load A"), replaced("load 0", "load g"), replaced("load 0000", "load 3FF0"), replaced("load 0", "load +"), replaced("load 0", "load _"), strings.ReplaceAll(zeroText, " ", "\t")} {
		if x, e := stat.Parse(s); x != (api.Stat{}) || e != api.ErrSyntax {
			t.Errorf("%q: %v, %d", s, x, e)
		}
	}
	for _, part := range []string{"8000000000000000", "4000000000000001", "bff0000000000000", "7ff8000000000001", "7ff0000000000000", "8000000000000001"} {
		zero := "0000000000000000"
		for _, load := range []string{part + " " + zero, zero + " " + part} {
			if x, e := stat.Parse(replaced("load "+zero+" "+zero, "load "+load)); x != (api.Stat{}) || e != api.ErrShape {
				t.Errorf("%q: %v, %d", load, x, e)
			}
		}
		if _, e := stat.Parse(replaced("load "+zero+" "+zero, "load "+part+" "+zero+"0")); e != api.ErrSyntax {
			t.Error("the form comes first", e)
		}
	}
}
