// Package ear is layer 1: names that were spelt by ear, and what they can sound like.
package ear

import (
	"escribano/api"
	"escribano/check"
	"escribano/sets"
)

// Name reports whether a string is a name.
func Name(s string) bool {
	if !check.Within(1, api.MaxName, len(s)) {
		return false
	}
	for at, c := range s {
		if !isLetter(c) && (at == 0 || !isDigit(c) && c != '.') {
			return false
		}
	}
	return true
}

// Check returns the part, the index in it and the error of a book.
func Check(b api.EaBook) (part, at int, e api.Errno) {
	k := book{b}
	if !check.Within(1, api.MaxEaSounds, k.Sounds) {
		return 1, 0, api.ErrRange
	}
	if !check.Within(1, api.MaxEaAlphabets, len(k.Alphabets)) {
		return 2, 0, api.ErrLong
	}
	if at, e := check.First(k.Alphabets, k.alphabetError); e != api.OK {
		return 2, at, e
	}
	if at, e := check.List(api.MaxEaSpellings, k.Spellings, k.spellingError); e != api.OK {
		return 3, at, e
	}
	return 0, 0, api.OK
}

// Count returns how many sound strings a spelling can be.
func Count(b api.EaBook, spelling int) (int, api.Errno) {
	k, e := open(b, spelling)
	if e != api.OK {
		return 0, e
	}
	return len(k.canBe(spelling)), api.OK
}

// First returns the first sound string that a spelling can be.
func First(b api.EaBook, spelling int) ([]int, api.Errno) {
	return Common(b, []int{spelling})
}

// Reads reports whether a spelling can be a sound string.
func Reads(b api.EaBook, spelling int, heard []int) (bool, api.Errno) {
	k, e := open(b, spelling)
	if e != api.OK {
		return false, e
	}
	if e := k.heardError(heard); e != api.OK {
		return false, e
	}
	_, can := k.canBe(spelling)[heardAs(heard)]
	return can, api.OK
}

// Alike returns whether two spellings sound alike.
func Alike(b api.EaBook, one, other int) (int, api.Errno) {
	k, e := open(b, one, other)
	if e != api.OK {
		return 0, e
	}
	if one == other {
		return 0, api.ErrArg
	}
	strings := k.canBe(one, other)
	_, shared := firstOf(strings, sets.Of(one, other))
	switch {
	case !shared:
		return api.Never, api.OK
	case len(strings) == 1:
		return api.Must, api.OK
	}
	return api.May, api.OK
}

// Common returns the first sound string that all of some spellings can be.
func Common(b api.EaBook, spellings []int) ([]int, api.Errno) {
	k, e := open(b, spellings...)
	if e != api.OK {
		return nil, e
	}
	if len(spellings) == 0 || !check.Ascending(spellings) {
		return nil, api.ErrArg
	}
	s, shared := firstOf(k.canBe(spellings...), sets.Of(spellings...))
	if !shared {
		return nil, api.ErrDown
	}
	return s.list(), api.OK
}

// Odd returns the fewest spellings without which all others can be one sound string.
func Odd(b api.EaBook) ([]int, api.Errno) {
	k, e := open(b)
	if e != api.OK {
		return nil, e
	}
	return k.fewestOdd(), api.OK
}

// Spell returns the shortest text that can be heard so.
func Spell(b api.EaBook, alphabet int, heard []int) (string, api.Errno) {
	k, e := open(b)
	if e != api.OK {
		return "", e
	}
	if !check.Within(0, len(k.Alphabets)-1, alphabet) {
		return "", api.ErrNone
	}
	if e := k.heardError(heard); e != api.OK {
		return "", e
	}
	return k.shortest(alphabet, heard)
}
