package load_test

import (
	"math"
	"math/big"
	"math/rand"
	"testing"

	"burgage/api"
	"burgage/load"
)

var (
	nan     = math.NaN()
	negZero = math.Copysign(0, -1)
	tiny    = math.SmallestNonzeroFloat64
	above2  = math.Nextafter(2, 3)
)

func TestIs(t *testing.T) {
	for _, z := range []complex128{0, 1, 2, 2i, 2 + 2i, complex(tiny, 0), complex(negZero, negZero)} {
		if !load.Is(z) {
			t.Error(z)
		}
	}
	for _, z := range []complex128{-1, -1i, 3, complex(above2, 0), complex(0, above2), complex(-tiny, 0), complex(0, -tiny), complex(nan, 0), complex(0, nan), complex(math.Inf(1), 0), complex(0, math.Inf(-1))} {
		if load.Is(z) {
			t.Error(z)
		}
		if got, is := load.Next(z, api.Get); got != 0 || is {
			t.Error(z, got, is)
		}
		if load.Weigh(z) != 0 || load.Less(z, 2) || load.Less(0, z) {
			t.Error(z)
		}
	}
}

func TestOf(t *testing.T) {
	for i, c := range []struct {
		l    []api.Deed
		want complex128
	}{
		{nil, 0},
		{[]api.Deed{api.Get}, 1},
		{[]api.Deed{api.Get, api.Get}, 1.5},
		{[]api.Deed{api.Get, api.Put}, 0.5 + 1i},
		{[]api.Deed{api.Get, api.Create}, 0.5},
		{[]api.Deed{api.Scan, api.Tell}, 1.5},
		{[]api.Deed{api.Put, api.Delete, api.Swap}, 1.75i},
		{[]api.Deed{0, -1, 11}, 0},
	} {
		if got := load.Of(c.l...); got != c.want {
			t.Error(i, got)
		}
	}
}

func TestDeeds(t *testing.T) {
	for d := api.Deed(-1); d < 13; d++ {
		reads := d == api.Get || d == api.Scan || d == api.Tell
		writes := d == api.Put || d == api.Delete || d == api.Swap
		if load.Reads(d) != reads || load.Writes(d) != writes {
			t.Error(d)
		}
		want := complex128(0.5 + 0.25i)
		if reads {
			want += 1
		}
		if writes {
			want += 1i
		}
		if got, is := load.Next(1+0.5i, d); got != want || !is {
			t.Error(d, got, is)
		}
	}
}

func TestDecay(t *testing.T) {
	z := load.Of(api.Get)
	for range 1074 {
		z, _ = load.Next(z, api.Create)
	}
	if real(z) != tiny {
		t.Error(z)
	}
	if z, is := load.Next(z, api.Create); z != 0 || !is {
		t.Error(z, is)
	}
	for range 2000 {
		z, _ = load.Next(z, api.Get)
	}
	if z != 2 || !load.Is(z) {
		t.Error(z)
	}
	if z, _ := load.Next(2+2i, api.Put); z != 1+2i {
		t.Error(z)
	}
}

func TestRounding(t *testing.T) {
	x := math.Nextafter(1, 2)
	// Half of it and 1 lies between two numbers: the sum is rounded to the even one.
	if z, _ := load.Next(complex(x, 0), api.Get); real(z) != 1.5 {
		t.Error(z)
	}
	if z, _ := load.Next(complex(3*tiny, tiny), api.Create); z != complex(2*tiny, 0) {
		t.Error(z)
	}
}

func TestWeigh(t *testing.T) {
	for z, want := range map[complex128]int{0: 0, 1 + 1i: 0, 1: 1, 1i: 2, 0.5 + 1i: 2, complex(tiny, 0): 1, complex(negZero, 0): 0} {
		if got := load.Weigh(z); got != want {
			t.Error(z, got)
		}
	}
}

// exactly compares exact sums with numbers that are long enough for them.
func exactly(a, b complex128) bool {
	sum := func(z complex128) *big.Float {
		x := new(big.Float).SetPrec(3000).SetFloat64(real(z))
		return x.Add(x, new(big.Float).SetFloat64(imag(z)))
	}
	return sum(a).Cmp(sum(b)) < 0
}

func TestLess(t *testing.T) {
	r := rand.New(rand.NewSource(1))
	parts := []float64{0, negZero, tiny, 2 * tiny, 0x1p-1022, 0x1p-60, 0x1p-53, 0x1p-52, 0.5, 1, math.Nextafter(1, 0), math.Nextafter(1, 2), math.Nextafter(2, 0), 2}
	for range 50 {
		parts = append(parts, 2*r.Float64(), math.Ldexp(r.Float64(), -r.Intn(1074)))
	}
	var loads []complex128
	for _, x := range parts {
		for _, y := range parts[:20] {
			loads = append(loads, complex(x, y))
		}
	}
	for range 20000 {
		a, b := loads[r.Intn(len(loads))], loads[r.Intn(len(loads))]
		if load.Less(a, b) != exactly(a, b) {
			t.Error(a, b)
		}
	}
	if !load.Less(complex(1, 0), complex(1, tiny)) || load.Less(complex(1, tiny), complex(tiny, 1)) || load.Less(1, 1i) {
		t.Error("sums that are rounded alike")
	}
}
