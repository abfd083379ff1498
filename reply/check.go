package reply

import (
	"escribano/api"
	"escribano/check"
	"escribano/sea"
)

// open returns the book, and its error.
func open(b api.ReBook) (book, api.Errno) {
	if _, _, e := Check(b); e != api.OK {
		return book{}, e
	}
	return look(b), api.OK
}

// openAnswer is open, with the error that an answer is no index behind it.
func openAnswer(b api.ReBook, answer int) (book, api.Errno) {
	k, e := open(b)
	if e == api.OK && !check.Within(0, len(k.Answers)-1, answer) {
		return book{}, api.ErrNone
	}
	return k, e
}

// isLetter reports whether there is such a letter.
func (k book) isLetter(letter int) bool { return check.Within(0, len(k.Harbour.Letters)-1, letter) }

// isWords reports whether bits are those of words.
func isWords(words int) bool { return check.Within(1, api.MaxReBits, words) }

// wordsError returns the error of the words of a letter.
func wordsError(_ []int, words int) api.Errno {
	if !isWords(words) {
		return api.ErrRange
	}
	return api.OK
}

// answerError returns the error of an answer.
func (k book) answerError(_ []api.ReAnswer, a api.ReAnswer) api.Errno {
	if !sea.IsPort(k.Harbour, a.Port) {
		return api.ErrNone
	}
	if !isWords(a.Words) || !sea.IsDay(a.Day) {
		return api.ErrRange
	}
	return api.OK
}
