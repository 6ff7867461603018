package handle_test

import (
	"math"
	"testing"

	"burgage/api"
	"burgage/handle"
)

func h(tenant int, gen uint32, r api.Rights) api.Handle {
	return api.Handle{Tenant: tenant, Gen: gen, Rights: r}
}

var (
	right = []api.Handle{h(1, 1, 1), h(16, math.MaxUint32, 7), h(3, 2, 5), h(3, 2, 4), h(9, 10, 2)}
	wrong = []api.Handle{{}, h(0, 1, 1), h(17, 1, 1), h(-1, 1, 1), h(1, 0, 1), h(1, 1, 0), h(1, 1, 8), h(1, 1, 255), h(math.MaxInt, 1, 1), h(math.MinInt, 1, 1)}
)

func TestRight(t *testing.T) {
	for _, x := range right {
		if !handle.Right(x) {
			t.Error(x)
		}
	}
	for _, x := range wrong {
		if handle.Right(x) {
			t.Error(x)
		}
	}
}

func TestDeeds(t *testing.T) {
	need := map[api.Deed]api.Rights{api.Get: api.Read, api.Tell: api.Read, api.Put: api.Write, api.Delete: api.Write, api.Swap: api.Write, api.Scan: api.Walk}
	for d := api.Deed(-1); d < 13; d++ {
		r, is := handle.Asks(d)
		if want, asks := need[d]; r != want || is != asks {
			t.Error("Asks", d, r, is)
		}
		for rights := api.Rights(0); rights < 10; rights++ {
			want := is && rights >= 1 && rights <= 7 && rights&r != 0
			if handle.Allows(h(1, 1, rights), d) != want {
				t.Error("Allows", rights, d)
			}
		}
		for _, x := range wrong {
			if handle.Allows(x, d) {
				t.Error("Allows", x, d)
			}
		}
	}
}

func TestWithin(t *testing.T) {
	for a := api.Rights(1); a <= 7; a++ {
		for b := api.Rights(1); b <= 7; b++ {
			if handle.Within(h(2, 3, a), h(2, 3, b)) != (a|b == b) {
				t.Error(a, b)
			}
		}
	}
	if handle.Within(h(1, 1, 1), h(2, 1, 1)) || handle.Within(h(1, 1, 1), h(1, 2, 1)) {
		t.Error("another tenant or generation")
	}
	for _, x := range wrong {
		if handle.Within(x, x) || handle.Within(x, h(1, 1, 7)) || handle.Within(h(1, 1, 1), x) {
			t.Error(x)
		}
	}
}

func TestTexts(t *testing.T) {
	for text, want := range map[string]api.Handle{"3.2.rs": h(3, 2, 5), "1.1.r": h(1, 1, 1), "16.4294967295.rws": h(16, math.MaxUint32, 7), "10.20.w": h(10, 20, 2), "2.7.ws": h(2, 7, 6)} {
		if s, e := handle.Show(want); s != text || e != api.OK {
			t.Error(want, s, e)
		}
		if x, e := handle.Read(text); x != want || e != api.OK {
			t.Error(text, x, e)
		}
	}
	for _, x := range wrong {
		if s, e := handle.Show(x); s != "" || e != api.ErrShape {
			t.Error(x, s, e)
		}
	}
	for _, s := range []string{"", ".", "..", "3.2.", "03.2.r", "3.02.r", "3.2.sr", "3.2.rr", "17.1.r", "0.1.r", "1.0.r", "3.2", "3.2r", "3.2.r ", " 3.2.r", "3.2.rx", "3.2.R", "+3.2.r", "3.-2.r", "3.4294967296.r", "3.4294967297.r", "4294967299.1.r", "3.2.r.", "3..r", "3.2.r.w", "x.2.r"} {
		if x, e := handle.Read(s); x != (api.Handle{}) || e != api.ErrSyntax {
			t.Errorf("%q: %v, %d", s, x, e)
		}
	}
}

func TestReadIsTheInverseOfShow(t *testing.T) {
	for tenant := 1; tenant <= 16; tenant++ {
		for r := api.Rights(1); r <= 7; r++ {
			for _, gen := range []uint32{1, 9, 10, 99, 1 << 31, math.MaxUint32} {
				s, _ := handle.Show(h(tenant, gen, r))
				if x, e := handle.Read(s); x != h(tenant, gen, r) || e != api.OK {
					t.Error(s, x, e)
				}
			}
		}
	}
}
