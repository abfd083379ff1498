package ear

import (
	"slices"

	"escribano/api"
	"escribano/check"
	"escribano/sets"
)

// book is a book that is looked at.
type book struct{ api.EaBook }

// open returns the book, and its error, or that one of some spellings is no index.
func open(b api.EaBook, spellings ...int) (book, api.Errno) {
	if _, _, e := Check(b); e != api.OK {
		return book{}, e
	}
	if !check.Within(0, len(b.Spellings)-1, spellings...) {
		return book{}, api.ErrNone
	}
	return book{b}, api.OK
}

// isLetter reports whether c is from a to z.
func isLetter(c rune) bool { return 'a' <= c && c <= 'z' }

// isDigit reports whether c is from 0 to 9.
func isDigit(c rune) bool { return '0' <= c && c <= '9' }

// alphabetError returns the error of an alphabet.
func (k book) alphabetError(before []api.EaAlphabet, a api.EaAlphabet) api.Errno {
	if !Name(a.Name) {
		return api.ErrForm
	}
	if slices.ContainsFunc(before, func(o api.EaAlphabet) bool { return o.Name == a.Name }) {
		return api.ErrTwice
	}
	if !check.Within(1, api.MaxEaLetters, len(a.Letters)) {
		return api.ErrLong
	}
	_, e := check.First(a.Letters, k.letterError)
	return e
}

// letterFault is an error of letters, and whether a letter has it.
type letterFault struct {
	e   api.Errno
	has func(before []api.EaLetter, l api.EaLetter) bool
}

// letterError returns the error of a letter.
func (k book) letterError(before []api.EaLetter, l api.EaLetter) api.Errno {
	faults := []letterFault{
		{api.ErrForm, func(_ []api.EaLetter, l api.EaLetter) bool { return !isLetter(rune(l.Letter)) }},
		{api.ErrTwice, func(before []api.EaLetter, l api.EaLetter) bool { return letterAt(before, l.Letter) >= 0 }},
		{api.ErrRange, func(_ []api.EaLetter, l api.EaLetter) bool { return !check.Within(0, sets.All(k.Sounds), l.Sounds) }},
		{api.ErrArg, func(_ []api.EaLetter, l api.EaLetter) bool { return l.Sounds == 0 && !l.Silent }},
	}
	for _, f := range faults {
		if f.has(before, l) {
			return f.e
		}
	}
	return api.OK
}

// letterAt returns the index of the letter with a byte, or -1.
func letterAt(letters []api.EaLetter, c byte) int {
	return slices.IndexFunc(letters, func(l api.EaLetter) bool { return l.Letter == c })
}

// spellingError returns the error of a spelling.
func (k book) spellingError(_ []api.EaSpelling, s api.EaSpelling) api.Errno {
	if !check.Within(0, len(k.Alphabets)-1, s.Alphabet) {
		return api.ErrNone
	}
	if !check.Within(1, api.MaxEaText, len(s.Text)) {
		return api.ErrLong
	}
	for at := range len(s.Text) {
		if letterAt(k.Alphabets[s.Alphabet].Letters, s.Text[at]) < 0 {
			return api.ErrForm
		}
	}
	return api.OK
}

// heardError returns the error of something heard.
func (k book) heardError(heard []int) api.Errno {
	if len(heard) > api.MaxEaHeard {
		return api.ErrLong
	}
	if !check.Within(0, k.Sounds-1, heard...) {
		return api.ErrRange
	}
	return api.OK
}
