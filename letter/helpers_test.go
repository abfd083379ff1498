package letter_test

import (
	"math/rand/v2"
	"slices"
	"strings"
	"testing"

	"escribano/api"
	"escribano/letter"
)

// fixed is a part with words, room is one without.
func fixed(words string) api.LePart { return api.LePart{Words: strings.Fields(words)} }

func room(lo, hi int) api.LePart { return api.LePart{Room: api.Span{Lo: lo, Hi: hi}} }

// formOf is a form.
func formOf(name string, parts ...api.LePart) api.LeForm {
	return api.LeForm{Name: name, Parts: parts}
}

// example is S of the document's examples.
func example() api.LeShelf {
	return shelfOf(12,
		formOf("plea", fixed("to the"), room(1, 2), fixed("i ask"), room(1, 3)),
		formOf("note", room(1, 2), fixed("i ask"), room(0, 2)),
		formOf("list", room(1, 2), room(1, 2)),
	)
}

// shelfOf is a shelf.
func shelfOf(width int, forms ...api.LeForm) api.LeShelf {
	return api.LeShelf{Width: width, Forms: forms}
}

// words is a letter, or a list of words; spoken is the other way.
func words(s string) []string { return strings.Fields(s) }

func spoken(words []string) string { return strings.Join(words, " ") }

// many is a letter with a word so many times.
func many(word string, times int) []string { return slices.Repeat([]string{word}, times) }

// fillsOf are fills, with a bar between the lists.
func fillsOf(s string) [][]string {
	var fills [][]string
	for _, list := range strings.Split(s, "|") {
		fills = append(fills, words(list))
	}
	return fills
}

func toldFills(fills [][]string) string {
	var lists []string
	for _, list := range fills {
		lists = append(lists, spoken(list))
	}
	return strings.Join(lists, "|")
}

// marksOf are marks: a full stop keeps, a minus drops, =word turns, +word puts.
func marksOf(s string) []api.LeMark {
	var marks []api.LeMark
	for _, m := range words(s) {
		kind := map[byte]int{'.': api.LeKeep, '=': api.LeTurn, '-': api.LeDrop, '+': api.LePut}[m[0]]
		marks = append(marks, api.LeMark{Kind: kind, Word: m[1:]})
	}
	return marks
}

func toldMarks(marks []api.LeMark) string {
	var l []string
	for _, m := range marks {
		l = append(l, string(".=-+"[m.Kind])+m.Word)
	}
	return spoken(l)
}

// corrections is how many of some marks are corrections.
func corrections(marks []api.LeMark) int {
	n := 0
	for _, m := range marks {
		if m.Kind != api.LeKeep {
			n++
		}
	}
	return n
}

// errors returns the error of each function with a shelf but Check.
func errors(s api.LeShelf, form int, fills [][]string, words []string, text string) [7]api.Errno {
	_, made := letter.Make(s, form, fills)
	_, of := letter.Of(s, words)
	_, _, filled := letter.Fills(s, form, words)
	_, written := letter.Write(s, words)
	_, read := letter.Read(s, text)
	_, mend := letter.Mend(s, form, words)
	_, _, nearest := letter.Nearest(s, words)
	return [7]api.Errno{made, of, filled, written, read, mend, nearest}
}

// must returns the result of a call, which must have no error.
func must[T any](t *testing.T) func(result T, e api.Errno) T {
	return func(result T, e api.Errno) T {
		t.Helper()
		if e != api.OK {
			t.Fatalf("error %d", e)
		}
		return result
	}
}

// distance is how many corrections Fewest says.
func distance(t *testing.T, from, to []string) int {
	t.Helper()
	_, n, e := letter.Fewest(from, to)
	if e != api.OK {
		t.Fatalf("error %d", e)
	}
	return n
}

// cloned is a shelf that shares no memory with s.
func cloned(s api.LeShelf) api.LeShelf {
	s.Forms = slices.Clone(s.Forms)
	for i := range s.Forms {
		s.Forms[i].Parts = slices.Clone(s.Forms[i].Parts)
		for j := range s.Forms[i].Parts {
			s.Forms[i].Parts[j].Words = slices.Clone(s.Forms[i].Parts[j].Words)
		}
	}
	return s
}

// sameShelf reports whether two shelves are equal.
func sameShelf(a, b api.LeShelf) bool {
	samePart := func(x, y api.LePart) bool { return x.Room == y.Room && slices.Equal(x.Words, y.Words) }
	return a.Width == b.Width && slices.EqualFunc(a.Forms, b.Forms, func(x, y api.LeForm) bool {
		return x.Name == y.Name && slices.EqualFunc(x.Parts, y.Parts, samePart)
	})
}

// sameFills reports whether fills are equal.
func sameFills(a, b [][]string) bool {
	return slices.EqualFunc(a, b, func(x, y []string) bool { return slices.Equal(x, y) })
}

// knownFills is what the tests themselves hold to be all fills of which a letter is of a form, in their order.
func knownFills(parts []api.LePart, words []string) [][][]string {
	if len(parts) == 0 {
		if len(words) > 0 {
			return nil
		}
		return [][][]string{nil}
	}
	p := parts[0]
	if n := len(p.Words); n > 0 {
		if n > len(words) || !slices.Equal(words[:n], p.Words) {
			return nil
		}
		return knownFills(parts[1:], words[n:])
	}
	var all [][][]string
	for n := p.Room.Lo; n <= min(p.Room.Hi, len(words)); n++ {
		for _, rest := range knownFills(parts[1:], words[n:]) {
			all = append(all, append([][]string{slices.Clone(words[:n])}, rest...))
		}
	}
	return all
}

// knownMarks is what the tests hold to be all marks by which one letter becomes another one, in their order; each as its kinds.
func knownMarks(from, to []string) []string {
	if len(from) == 0 && len(to) == 0 {
		return []string{""}
	}
	var all []string
	add := func(kind string, from, to []string) {
		for _, rest := range knownMarks(from, to) {
			all = append(all, kind+rest)
		}
	}
	if len(from) > 0 && len(to) > 0 {
		if from[0] == to[0] {
			add("0", from[1:], to[1:])
		} else {
			add("1", from[1:], to[1:])
		}
	}
	if len(from) > 0 {
		add("2", from[1:], to)
	}
	if len(to) > 0 {
		add("3", from, to[1:])
	}
	return all
}

// kindsOf are the kinds of marks, as digits.
func kindsOf(marks []api.LeMark) string {
	var kinds strings.Builder
	for _, m := range marks {
		kinds.WriteByte(byte('0' + m.Kind))
	}
	return kinds.String()
}

// lettersOf returns all letters of a form whose fills are of some words.
func lettersOf(parts []api.LePart, known []string) [][]string {
	all := [][]string{nil}
	longer := func(start []string, more [][]string) [][]string {
		var l [][]string
		for _, end := range more {
			l = append(l, append(slices.Clone(start), end...))
		}
		return l
	}
	for _, p := range parts {
		more := [][]string{p.Words}
		if len(p.Words) == 0 {
			more = slices.DeleteFunc(lettersUpTo(p.Room.Hi, known), func(l []string) bool { return len(l) < p.Room.Lo })
		}
		var next [][]string
		for _, start := range all {
			next = append(next, longer(start, more)...)
		}
		all = next
	}
	return all
}

// lettersUpTo returns all lists of at most long words.
func lettersUpTo(long int, known []string) [][]string {
	all := [][]string{nil}
	for at := 0; at < len(all); at++ {
		if len(all[at]) == long {
			break
		}
		for _, word := range known {
			all = append(all, append(slices.Clone(all[at]), word))
		}
	}
	return all
}

// dice returns numbers that are the same in each run.
func dice(seed uint64) *rand.Rand { return rand.New(rand.NewPCG(seed, 2)) }

// anyWord returns one of few words, so that letters often have some in common.
func anyWord(d *rand.Rand) string {
	return []string{"a", "i", "to", "ask", "ship", "judge", "mercy", "brother"[:d.IntN(7)+1], "harbours"}[d.IntN(9)]
}

// anyWords returns from lo to hi words.
func anyWords(d *rand.Rand, lo, hi int) []string {
	var l []string
	for range lo + d.IntN(hi-lo+1) {
		l = append(l, anyWord(d))
	}
	return l
}

// anyParts returns the parts of a form.
func anyParts(d *rand.Rand) []api.LePart {
	var parts []api.LePart
	for range d.IntN(api.MaxLeParts + 1) {
		if d.IntN(2) == 0 {
			parts = append(parts, api.LePart{Words: anyWords(d, 1, api.MaxLeFixed)})
			continue
		}
		hi := 1 + d.IntN(api.MaxLeRoom)
		parts = append(parts, room(d.IntN(hi+1), hi))
	}
	return parts
}

// anyShelf returns a shelf.
func anyShelf(d *rand.Rand) api.LeShelf {
	s := api.LeShelf{Width: api.MaxLeWord + d.IntN(api.MaxLeWidth-api.MaxLeWord+1)}
	for _, name := range []string{"plea", "note", "list", "a.4"}[:d.IntN(api.MaxLeForms+1)] {
		s.Forms = append(s.Forms, formOf(name, anyParts(d)...))
	}
	return s
}

// anyFills returns fills of a form.
func anyFills(d *rand.Rand, parts []api.LePart) [][]string {
	var fills [][]string
	for _, p := range parts {
		if len(p.Words) == 0 {
			fills = append(fills, anyWords(d, p.Room.Lo, p.Room.Hi))
		}
	}
	return fills
}

// anyLetter returns a letter, often one that is nearly of one of the forms.
func anyLetter(d *rand.Rand, s api.LeShelf) []string {
	if len(s.Forms) == 0 || d.IntN(4) == 0 {
		return anyWords(d, 0, api.MaxLeWords)
	}
	form := d.IntN(len(s.Forms))
	l, _ := letter.Make(s, form, anyFills(d, s.Forms[form].Parts))
	for range d.IntN(3) {
		l = corrected(d, l)
	}
	return l
}

// corrected returns a letter with one correction.
func corrected(d *rand.Rand, l []string) []string {
	l = slices.Clone(l)
	kind := []int{api.LeTurn, api.LeDrop, api.LePut}[d.IntN(3)]
	if len(l) == 0 {
		kind = api.LePut
	} else if len(l) == api.MaxLeWords {
		kind = api.LeDrop
	}
	if kind == api.LePut {
		return slices.Insert(l, d.IntN(len(l)+1), anyWord(d))
	}
	at := d.IntN(len(l))
	if kind == api.LeDrop {
		return slices.Delete(l, at, at+1)
	}
	was := l[at]
	if l[at] = anyWord(d); l[at] == was {
		l[at] = "other"
	}
	return l
}

// eachShelf calls a test for many shelves and letters.
func eachShelf(t *testing.T, test func(t *testing.T, d *rand.Rand, s api.LeShelf, words []string)) {
	for seed := range uint64(600) {
		d := dice(seed)
		s := anyShelf(d)
		if part, at, e := letter.Check(s); part != 0 || at != 0 || e != api.OK {
			t.Fatalf("Check of %v = %d, %d, %d", s, part, at, e)
		}
		l := anyLetter(d, s)
		test(t, d, s, l)
		if t.Failed() {
			t.Fatalf("the shelf was %+v, the letter %q", s, l)
		}
	}
}
