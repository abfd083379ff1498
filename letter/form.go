package letter

import (
	"iter"

	"escribano/api"
)

// form is a form that is looked at.
type form struct{ api.LeForm }

// part is a part that is looked at.
type part struct{ api.LePart }

// slot is where a word of a letter can stand.
type slot struct {
	word string // the only word that can stand there; if it is empty any word can
	open bool   // there need be no word
}

// takes reports whether a word can stand in the slot.
func (s slot) takes(word string) bool { return s.word == "" || s.word == word }

// given returns the slots of words that are given.
func given(words []string) []slot {
	var slots []slot
	for _, word := range words {
		slots = append(slots, slot{word: word})
	}
	return slots
}

// isRoom reports whether the part is room.
func (p part) isRoom() bool { return len(p.Words) == 0 }

// slots returns where the words of the part can stand.
func (p part) slots() []slot {
	slots := given(p.Words)
	for n := range p.Room.Hi {
		slots = append(slots, slot{open: n >= p.Room.Lo})
	}
	return slots
}

// slots returns where the words of a letter of the form can stand.
func (f form) slots() []slot {
	var slots []slot
	for _, p := range f.Parts {
		slots = append(slots, part{p}.slots()...)
	}
	return slots
}

// rooms returns the parts that are room.
func (f form) rooms() []part {
	var rooms []part
	for _, p := range f.Parts {
		if p := (part{p}); p.isRoom() {
			rooms = append(rooms, p)
		}
	}
	return rooms
}

// filled returns the letter of the form and fills.
func (f form) filled(fills [][]string) []string {
	var words []string
	for _, p := range f.Parts {
		if !(part{p}).isRoom() {
			words = append(words, p.Words...)
			continue
		}
		words = append(words, fills[0]...)
		fills = fills[1:]
	}
	return words
}

// counts is how many words of a letter are in each part of a form.
// Letters of one form differ only in how many are in its rooms.
type counts [api.MaxLeParts]int

// before reports whether fills with so many words come before other ones.
func (c counts) before(o counts) bool {
	if c == o {
		return false
	}
	at := 0
	for c[at] == o[at] {
		at++
	}
	return c[at] < o[at]
}

// ways yields how many words are in each part of the form, once for each way in which a letter is of it.
func (f form) ways(words []string) iter.Seq[counts] {
	return func(yield func(counts) bool) {
		var divide func(at int, left []string, c counts) bool
		divide = func(at int, left []string, c counts) bool {
			if at == len(f.Parts) {
				return len(left) > 0 || yield(c)
			}
			slots := part{f.Parts[at]}.slots()
		sizes:
			for n := range len(slots) + 1 {
				if n > len(left) || n < len(slots) && !slots[n].open {
					continue sizes
				}
				for i := range n {
					takes := slots[i].takes
					if !takes(left[i]) {
						continue sizes
					}
				}
				c[at] = n
				if !divide(at+1, left[n:], c) {
					return false
				}
			}
			return true
		}
		divide(0, words, counts{})
	}
}

// firstWay returns the first way in which a letter is of the form, and how many there are.
func (f form) firstWay(words []string) (counts, int) {
	return best(f.ways(words), counts.before)
}

// fills returns the words of a letter that are in the rooms of the form.
func (f form) fills(words []string, c counts) [][]string {
	var fills [][]string
	for at, p := range f.Parts {
		if (part{p}).isRoom() {
			fill := make([]string, c[at])
			copy(fill, words)
			fills = append(fills, fill)
		}
		words = words[c[at]:]
	}
	return fills
}
