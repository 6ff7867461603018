package vword_test

import (
	"testing"

	"burgage/api"
	"burgage/vword"
)

const top = 1<<62 - 1

func TestNewAndParts(t *testing.T) {
	for _, version := range []uint64{0, 1, 2, 12345, top - 1, top} {
		for flags := range 4 {
			locked, dead := flags&1 != 0, flags&2 != 0
			w, e := vword.New(version, locked, dead)
			if e != api.OK || uint64(w) != version<<2|uint64(flags) {
				t.Fatal(version, flags, w, e)
			}
			if vword.Version(w) != version || vword.Locked(w) != locked || vword.Dead(w) != dead {
				t.Error("parts of", w)
			}
			if vword.Free(w) != (flags == 0) {
				t.Error("Free of", w)
			}
		}
	}
	for _, version := range []uint64{top + 1, top + 2, 1<<64 - 1} {
		if w, e := vword.New(version, true, true); w != 0 || e != api.ErrArg {
			t.Error(version, w, e)
		}
	}
}

func TestChanges(t *testing.T) {
	type result struct {
		w  api.Word
		is bool
	}
	for _, c := range []struct {
		w                      api.Word
		lock, drop, done, kill result
	}{
		{0, result{1, true}, result{0, false}, result{0, false}, result{0, false}},
		{1, result{1, false}, result{0, true}, result{4, true}, result{6, true}},
		{2, result{2, false}, result{2, false}, result{2, false}, result{2, false}},
		{3, result{3, false}, result{3, false}, result{3, false}, result{3, false}},
		{1<<64 - 4, result{1<<64 - 3, true}, result{1<<64 - 4, false}, result{1<<64 - 4, false}, result{1<<64 - 4, false}},
		{1<<64 - 3, result{1<<64 - 3, false}, result{1<<64 - 4, true}, result{0, true}, result{2, true}},
	} {
		for i, f := range []func(api.Word) (api.Word, bool){vword.Lock, vword.Drop, vword.Done, vword.Kill} {
			w, is := f(c.w)
			if want := []result{c.lock, c.drop, c.done, c.kill}[i]; w != want.w || is != want.is {
				t.Error("change", i, "of", c.w, "is", w, is)
			}
		}
	}
}

func TestLockAndBack(t *testing.T) {
	for _, w := range []api.Word{0, 4, 400, 1<<64 - 4} {
		locked, _ := vword.Lock(w)
		if back, is := vword.Drop(locked); back != w || !is {
			t.Error("Drop does not restore", w)
		}
		if done, is := vword.Done(locked); done == w || !is {
			t.Error("Done restores", w)
		}
	}
}

func TestTexts(t *testing.T) {
	for text, w := range map[string]api.Word{"0": 0, "0+": 1, "0x": 2, "0+x": 3, "1": 4, "1+x": 7, "907": 3628, "4611686018427387903+x": 1<<64 - 1} {
		if s := vword.Show(w); s != text {
			t.Error("Show", w, s)
		}
		if got, e := vword.Parse(text); got != w || e != api.OK {
			t.Error("Parse", text, got, e)
		}
	}
	for _, s := range []string{"", "+", "x", "+x", "00", "01", "0x+", "0++", "0xx", "-0", "-1", "+1", " 1", "1 ", "1_0", "0x1", "a", "4611686018427387904", "18446744073709551616", "1\n"} {
		if w, e := vword.Parse(s); w != 0 || e != api.ErrSyntax {
			t.Error("Parse", s, w, e)
		}
	}
}
