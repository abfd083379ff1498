package letter

import (
	"escribano/api"
	"escribano/check"
	"escribano/names"
)

// shelfError returns the error of a shelf, or of a letter.
func shelfError(s api.LeShelf, words []string) api.Errno {
	if _, _, e := Check(s); e != api.OK {
		return e
	}
	return letterError(words)
}

// open returns a form of a shelf, and the error of the shelf, or that there is no such form.
func open(s api.LeShelf, at int) (form, api.Errno) {
	if _, _, e := Check(s); e != api.OK {
		return form{}, e
	}
	if !check.Within(0, len(s.Forms)-1, at) {
		return form{}, api.ErrNone
	}
	return form{s.Forms[at]}, api.OK
}

// openFor is open, with the error of a letter behind those of open.
func openFor(s api.LeShelf, at int, words []string) (form, api.Errno) {
	f, e := open(s, at)
	if e == api.OK {
		e = letterError(words)
	}
	return f, e
}

// formError returns the error of a form.
func formError(before []api.LeForm, f api.LeForm) api.Errno {
	if e := names.Error(before, f, func(f api.LeForm) string { return f.Name }); e != api.OK {
		return e
	}
	_, e := check.List(api.MaxLeParts, f.Parts, partError)
	return e
}

// partError returns the error of a part.
func partError(_ []api.LePart, p api.LePart) api.Errno {
	if len(p.Words) > api.MaxLeFixed {
		return api.ErrLong
	}
	if !areWords(p.Words) {
		return api.ErrForm
	}
	if !(part{p}).isRoom() {
		if p.Room != (api.Span{}) {
			return api.ErrArg
		}
		return api.OK
	}
	if p.Room.Hi == 0 {
		return api.ErrRange
	}
	return check.Span(0, api.MaxLeRoom, p.Room)
}

// fillsError returns the error of what is put into the rooms of a form.
func (f form) fillsError(fills [][]string) api.Errno {
	rooms := f.rooms()
	if len(fills) != len(rooms) {
		return api.ErrLong
	}
	_, e := check.First(fills, func(before [][]string, fill []string) api.Errno {
		room := rooms[len(before)].Room
		if !check.Within(room.Lo, room.Hi, len(fill)) {
			return api.ErrRange
		}
		if !areWords(fill) {
			return api.ErrForm
		}
		return api.OK
	})
	return e
}

// letterError returns the error of a letter.
func letterError(words []string) api.Errno {
	if len(words) > api.MaxLeWords {
		return api.ErrLong
	}
	if !areWords(words) {
		return api.ErrForm
	}
	return api.OK
}

// areWords reports whether all of some strings are words.
func areWords(words []string) bool {
	for at := range len(words) {
		if !isWord(words[at]) {
			return false
		}
	}
	return true
}

// isWord reports whether a string is a word.
func isWord(s string) bool {
	if !check.Within(1, api.MaxLeWord, len(s)) {
		return false
	}
	for _, c := range s {
		if c < 'a' || c > 'z' {
			return false
		}
	}
	return true
}
