// Package vword is the word of a versioned lock: see shared/doc/01-vword.md.
package vword

import (
	"strconv"
	"strings"

	"burgage/api"
)

const (
	lockedBit bits = 1 << iota
	deadBit
	oneVersion // the least bit of the version: adding it wraps round by itself
)

const maxVersion = 1<<62 - 1

// bits are a word, asked for its parts.
type bits api.Word

func (b bits) version() uint64 { return uint64(b / oneVersion) }
func (b bits) locked() bool    { return b&lockedBit != 0 }
func (b bits) dead() bool      { return b&deadBit != 0 }
func (b bits) free() bool      { return !b.locked() && !b.dead() }
func (b bits) held() bool      { return b.locked() && !b.dead() }

// word is a word that can be changed.
type word struct{ bits }

func of(w api.Word) word { return word{bits(w)} }

// turn changes the word if the predicate allows it.
func (w word) turn(may func() bool, change func(bits) bits) (api.Word, bool) {
	if !may() {
		return api.Word(w.bits), false
	}
	return api.Word(change(w.bits)), true
}

// New returns the word of a version and two flags.
func New(version uint64, locked, dead bool) (api.Word, api.Errno) {
	if version > maxVersion {
		return 0, api.ErrArg
	}
	b := bits(version) * oneVersion
	if locked {
		b |= lockedBit
	}
	if dead {
		b |= deadBit
	}
	return api.Word(b), api.OK
}

// Version returns the version of a word.
func Version(w api.Word) uint64 { return of(w).version() }

// Locked reports whether a word is locked.
func Locked(w api.Word) bool { return of(w).locked() }

// Dead reports whether a word is dead.
func Dead(w api.Word) bool { return of(w).dead() }

// Free reports whether a word is neither locked nor dead.
func Free(w api.Word) bool { return of(w).free() }

// Lock locks a free word.
func Lock(w api.Word) (api.Word, bool) {
	x := of(w)
	return x.turn(x.free, func(b bits) bits { return b | lockedBit })
}

// Drop unlocks a held word and restores it.
func Drop(w api.Word) (api.Word, bool) {
	x := of(w)
	return x.turn(x.held, func(b bits) bits { return b &^ lockedBit })
}

// Done unlocks a held word with the next version.
func Done(w api.Word) (api.Word, bool) {
	x := of(w)
	return x.turn(x.held, func(b bits) bits { return b&^lockedBit + oneVersion })
}

// Kill makes a held word dead, with the next version.
func Kill(w api.Word) (api.Word, bool) {
	x := of(w)
	return x.turn(x.held, func(b bits) bits { return (b&^lockedBit | deadBit) + oneVersion })
}

// Show returns the text of a word.
func Show(w api.Word) string {
	x := of(w)
	text := strconv.FormatUint(x.version(), 10)
	if x.locked() {
		text += "+"
	}
	if x.dead() {
		text += "x"
	}
	return text
}

// Parse returns the word with a text.
func Parse(s string) (api.Word, api.Errno) {
	digits, dead := strings.CutSuffix(s, "x")
	digits, locked := strings.CutSuffix(digits, "+")
	version, err := strconv.ParseUint(digits, 10, 64)
	if err != nil {
		return 0, api.ErrSyntax
	}
	w, e := New(version, locked, dead)
	// ParseUint takes leading zeros, which no text of a word has.
	if e != api.OK || Show(w) != s {
		return 0, api.ErrSyntax
	}
	return w, api.OK
}
