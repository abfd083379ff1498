package ear

import (
	"cmp"
	"iter"
	"slices"

	"escribano/api"
	"escribano/sets"
)

// silence stands for no sound, where a letter gives one.
const silence = -1

// soundString is a sound string; the places behind its end are 0, so that equal ones are equal structs.
type soundString struct {
	long   int
	sounds [api.MaxEaText]int
}

// heardAs returns what was heard as a sound string.
func heardAs(heard []int) soundString {
	s := soundString{long: len(heard)}
	copy(s.sounds[:], heard)
	return s
}

// with returns the sound string with one more sound, or the same one if this is silence.
func (s soundString) with(sound int) soundString {
	if sound != silence {
		s.sounds[s.long] = sound
		s.long++
	}
	return s
}

// compare is below 0 if s comes before o, and above 0 if it comes behind it.
func (s soundString) compare(o soundString) int {
	if s.long == o.long && s.sounds != o.sounds {
		return slices.Compare(s.sounds[:], o.sounds[:])
	}
	return cmp.Compare(s.long, o.long)
}

// list returns the sounds in new memory.
func (s soundString) list() []int {
	l := make([]int, s.long)
	copy(l, s.sounds[:])
	return l
}

// letter is a letter that is looked at.
type letter struct{ api.EaLetter }

// gives reports whether the letter can give a sound, or silence.
func (l letter) gives(sound int) bool {
	if sound == silence {
		return l.Silent
	}
	return l.Sounds&(1<<sound) != 0
}

// letters returns the letters of a spelling.
func (k book) letters(spelling int) []letter {
	s := k.Spellings[spelling]
	known := k.Alphabets[s.Alphabet].Letters
	var l []letter
	for at := range len(s.Text) {
		l = append(l, letter{known[letterAt(known, s.Text[at])]})
	}
	return l
}

// soundStrings yields what a spelling can be, once for each way in which its letters give it.
func (k book) soundStrings(spelling int) iter.Seq[soundString] {
	letters := k.letters(spelling)
	return func(yield func(soundString) bool) {
		var give func(at int, s soundString) bool
		give = func(at int, s soundString) bool {
			if at == len(letters) {
				return yield(s)
			}
			gives := letters[at].gives
			for sound := silence; sound < k.Sounds; sound++ {
				if gives(sound) && !give(at+1, s.with(sound)) {
					return false
				}
			}
			return true
		}
		give(0, soundString{})
	}
}

// canBe returns all sound strings that some spellings can be, each with the bits of those of them that can be it.
func (k book) canBe(spellings ...int) map[soundString]int {
	who := map[soundString]int{}
	for _, spelling := range spellings {
		for s := range k.soundStrings(spelling) {
			who[s] |= 1 << spelling
		}
	}
	return who
}

// firstOf returns the first sound string that all of some spellings, told as bits, can be, and whether there is one.
func firstOf(who map[soundString]int, spellings int) (soundString, bool) {
	var first soundString
	found := false
	for s, can := range who {
		if can&spellings == spellings && (!found || s.compare(first) < 0) {
			first, found = s, true
		}
	}
	return first, found
}

// fewestOdd returns the fewest spellings without which all others can be one sound string.
func (k book) fewestOdd() []int {
	all := sets.All(len(k.Spellings))
	who := k.canBe(sets.Members(all)...)
	fewest, _ := sets.Fewest(len(k.Spellings), func(odd int) bool {
		_, shared := firstOf(who, all&^odd)
		return shared || odd == all
	})
	return fewest
}

// shortest returns the shortest text in an alphabet that can be heard so.
// A letter gives at most one sound, so no text has fewer letters than sounds, and each place takes the first letter that gives its sound. As a text is not empty, nothing heard takes a silent letter.
func (k book) shortest(alphabet int, heard []int) (string, api.Errno) {
	wanted := heard
	if len(heard) == 0 {
		wanted = []int{silence}
	}
	var text []byte
sounds:
	for _, sound := range wanted {
	letters:
		for _, l := range k.Alphabets[alphabet].Letters {
			if !(letter{l}).gives(sound) {
				continue letters
			}
			text = append(text, l.Letter)
			continue sounds
		}
		return "", api.ErrDown
	}
	return string(text), api.OK
}
