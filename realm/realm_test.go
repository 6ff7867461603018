package realm_test

import (
	"math"
	"strings"
	"testing"

	"burgage/api"
	"burgage/realm"
)

const zeros = "\x00\x00\x00\x00\x00\x00\x00"

var wrong = []int{0, -1, 17, 256, 259, 1<<32 + 3, math.MinInt, math.MaxInt}

func TestPrefix(t *testing.T) {
	for tenant := 1; tenant <= api.MaxTenants; tenant++ {
		if p, e := realm.Prefix(tenant); p != zeros+string(rune(tenant)) || e != api.OK {
			t.Errorf("%d: %q, %d", tenant, p, e)
		}
	}
	for _, tenant := range wrong {
		if p, e := realm.Prefix(tenant); p != "" || e != api.ErrArg {
			t.Errorf("%d: %q, %d", tenant, p, e)
		}
	}
}

func TestJoinAndSplit(t *testing.T) {
	for _, key := range []string{"", "a", "a\x00b", "0123456789abcdef", strings.Repeat("\x00", 16)} {
		for _, tenant := range []int{1, 3, 16} {
			p, e := realm.Join(tenant, key)
			if e != api.OK || !strings.HasPrefix(p, zeros+string(rune(tenant))) {
				t.Errorf("%d %q: %q, %d", tenant, key, p, e)
			}
			if n, k, e := realm.Split(p); n != tenant || k != key || e != api.OK {
				t.Errorf("%q: %d, %q, %d", p, n, k, e)
			}
		}
	}
	if p, e := realm.Join(3, "a"); p != zeros+"\x03a\x00\x00" || e != api.OK {
		t.Errorf("%q, %d", p, e)
	}
}

func TestWrongJoins(t *testing.T) {
	long := "0123456789abcdefg"
	for _, tenant := range wrong {
		for _, key := range []string{"a", long} {
			if p, e := realm.Join(tenant, key); p != "" || e != api.ErrArg {
				t.Errorf("%d %q: %q, %d", tenant, key, p, e)
			}
		}
	}
	if p, e := realm.Join(1, long); p != "" || e != api.ErrLong {
		t.Errorf("%q, %d", p, e)
	}
}

func TestWrongSplits(t *testing.T) {
	for _, s := range []string{"", "a", zeros, zeros + "\x01", zeros + "\x01a", zeros + "\x01a\x00", zeros + "\x01a\x00\x00b", zeros + "\x00a\x00\x00", zeros + "\x11a\x00\x00", "\x01" + zeros + "\x00\x00", zeros + "\x010123456789abcdefg\x00\x00"} {
		if n, k, e := realm.Split(s); n != 0 || k != "" || e != api.ErrShape {
			t.Errorf("%q: %d, %q, %d", s, n, k, e)
		}
	}
}

func TestRange(t *testing.T) {
	for tenant := 1; tenant <= api.MaxTenants; tenant++ {
		from, to, e := realm.Range(tenant)
		if from != zeros+string(rune(tenant)) || to != zeros+string(rune(tenant+1)) || e != api.OK {
			t.Errorf("%d: %q, %q, %d", tenant, from, to, e)
		}
		for _, key := range []string{"", "\xff\xff", "0123456789abcdef"} {
			if p, _ := realm.Join(tenant, key); p < from || p >= to {
				t.Errorf("%q is not in the range of %d", p, tenant)
			}
		}
	}
	for _, tenant := range wrong {
		if from, to, e := realm.Range(tenant); from != "" || to != "" || e != api.ErrArg {
			t.Errorf("%d: %q, %q, %d", tenant, from, to, e)
		}
	}
}

func TestOwner(t *testing.T) {
	for text, want := range map[string]int{zeros + "\x01": 1, zeros + "\x10": 16, zeros + "\x02\xff\xff": 2, zeros + "\x03no code": 3, "": 0, zeros: 0, zeros + "\x00": 0, zeros + "\x11": 0, "\x01" + zeros: 0, "\x00\x00\x00\x01\x00\x00\x00\x01": 0} {
		if got, is := realm.Owner(text); got != want || is != (want != 0) {
			t.Errorf("%q: %d, %t", text, got, is)
		}
	}
}
