package number_test

import (
	"math"
	"testing"

	"burgage/number"
)

func TestNatural(t *testing.T) {
	for s, n := range map[string]uint64{"0": 0, "7": 7, "10": 10, "18446744073709551615": math.MaxUint64} {
		if got, is := number.Natural(s, math.MaxUint64); got != n || !is {
			t.Error(s, got, is)
		}
	}
	if n, is := number.Natural("9", 9); n != 9 || !is {
		t.Error(n, is)
	}
	for _, s := range []string{"", "00", "01", "-0", "-1", "+1", "1_0", "0x1", " 1", "1 ", "1.0", "10", "18446744073709551616", "999999999999999999999"} {
		if n, is := number.Natural(s, 9); n != 0 || is {
			t.Error(s, n)
		}
	}
}

func TestSigned(t *testing.T) {
	for s, n := range map[string]int{"0": 0, "-1": -1, "12": 12, "9223372036854775807": math.MaxInt, "-9223372036854775808": math.MinInt} {
		if got, is := number.Signed(s); got != n || !is {
			t.Error(s, got, is)
		}
	}
	for _, s := range []string{"", "-", "-0", "00", "-01", "+1", "1_0", "--1", "9223372036854775808", "-9223372036854775809", " 1", "1 "} {
		if n, is := number.Signed(s); n != 0 || is {
			t.Error(s, n)
		}
	}
}
