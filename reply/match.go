package reply

import (
	"cmp"
	"iter"
	"slices"

	"escribano/api"
	"escribano/sets"
)

// match says to which letter each answer belongs, or that it is a stray; the places behind the last answer are strays, too.
type match [api.MaxReAnswers]int

// allStrays returns that no answer belongs to a letter.
func allStrays() match {
	var m match
	for answer := range m {
		m[answer] = api.ReStray
	}
	return m
}

// list returns the letters of so many answers in new memory.
func (m match) list(answers int) []int {
	l := make([]int, answers)
	copy(l, m[:])
	return l
}

// answerOf returns the answer that belongs to a letter, and whether there is one.
func (m match) answerOf(letter int) (int, bool) {
	answer := slices.Index(m[:], letter)
	return answer, answer >= 0
}

// compare is below 0 if m comes before o.
func compare(m, o match) int {
	return slices.CompareFunc(m[:], o[:], func(letter, other int) int { return cmp.Compare(place(letter), place(other)) })
}

// place returns a letter, or for a stray the number behind all letters.
func place(letter int) int {
	if letter == api.ReStray {
		return api.MaxShLetters
	}
	return letter
}

// linkOf returns the bit that says that an answer and a letter are linked: that the one can belong to the other.
func linkOf(answer, letter int) int { return sets.Of(answer*api.MaxShLetters + letter) }

// linked returns the links of the answers and letters of which something is so.
func (k book) linked(isSo func(answer, letter int) bool) int {
	links := 0
	for answer := range k.Answers {
		for letter := range k.Harbour.Letters {
			if isSo(answer, letter) {
				links |= linkOf(answer, letter)
			}
		}
	}
	return links
}

// matches yields all ways in which answers can belong to letters to which they are linked.
func (k book) matches(links int) iter.Seq[match] {
	return func(yield func(match) bool) {
		var give func(answer int, m match) bool
		give = func(answer int, m match) bool {
			if answer == len(k.Answers) {
				return yield(m)
			}
			if !give(answer+1, m) {
				return false
			}
		letters:
			for letter := range k.Harbour.Letters {
				if links&linkOf(answer, letter) == 0 {
					continue letters
				}
				for _, taken := range m[:answer] {
					if taken == letter {
						continue letters
					}
				}
				m[answer] = letter
				if !give(answer+1, m) {
					return false
				}
			}
			return true
		}
		give(0, allStrays())
	}
}

// strays returns how many answers are strays.
func (k book) strays(m match) int {
	strays := 0
	for _, letter := range m[:len(k.Answers)] {
		if letter == api.ReStray {
			strays++
		}
	}
	return strays
}
