package ear_test

import (
	"cmp"
	"math/rand/v2"
	"slices"
	"strings"
	"testing"

	"escribano/api"
	"escribano/ear"
)

// example is B of the document's examples.
func example() api.EaBook {
	return api.EaBook{
		Sounds: 3,
		Alphabets: []api.EaAlphabet{
			{Name: "roman", Letters: []api.EaLetter{{Letter: 'a', Sounds: 1}, {Letter: 'e', Sounds: 3}, {Letter: 'k', Sounds: 4}, {Letter: 'h', Silent: true}}},
			{Name: "abjad", Letters: []api.EaLetter{{Letter: 'k', Sounds: 4}, {Letter: 'y', Sounds: 2, Silent: true}, {Letter: 'n', Sounds: 1}}},
		},
		Spellings: []api.EaSpelling{{Alphabet: 0, Text: "ke"}, {Alphabet: 1, Text: "ky"}, {Alphabet: 0, Text: "hka"}, {Alphabet: 1, Text: "kn"}},
	}
}

// spelled is the example's book with other spellings: each is the number of an alphabet and the text.
func spelled(spellings ...string) api.EaBook {
	b := example()
	b.Spellings = nil
	for _, s := range spellings {
		b.Spellings = append(b.Spellings, api.EaSpelling{Alphabet: int(s[0] - '0'), Text: s[1:]})
	}
	return b
}

// cloned is a book that shares no memory with b.
func cloned(b api.EaBook) api.EaBook {
	b.Alphabets = slices.Clone(b.Alphabets)
	for i := range b.Alphabets {
		b.Alphabets[i].Letters = slices.Clone(b.Alphabets[i].Letters)
	}
	b.Spellings = slices.Clone(b.Spellings)
	return b
}

// sameBook reports whether two books are equal.
func sameBook(a, b api.EaBook) bool {
	return a.Sounds == b.Sounds && slices.Equal(a.Spellings, b.Spellings) &&
		slices.EqualFunc(a.Alphabets, b.Alphabets, func(x, y api.EaAlphabet) bool {
			return x.Name == y.Name && slices.Equal(x.Letters, y.Letters)
		})
}

// errors returns the error of each function with a book but Check.
func errors(b api.EaBook, spelling, other int, spellings []int, alphabet int, heard []int) [7]api.Errno {
	_, count := ear.Count(b, spelling)
	_, first := ear.First(b, spelling)
	_, reads := ear.Reads(b, spelling, heard)
	_, alike := ear.Alike(b, spelling, other)
	_, common := ear.Common(b, spellings)
	_, odd := ear.Odd(b)
	_, spell := ear.Spell(b, alphabet, heard)
	return [7]api.Errno{count, first, reads, alike, common, odd, spell}
}

// must returns the result of a call, which must have no error.
func must[T any](t *testing.T) func(result T, e api.Errno) T {
	return func(result T, e api.Errno) T {
		t.Helper()
		if e != api.OK {
			t.Fatalf("error %d", e)
		}
		return result
	}
}

// numbersBelow returns 0, 1 and so on, n numbers.
func numbersBelow(n int) []int {
	l := []int{}
	for i := range n {
		l = append(l, i)
	}
	return l
}

// subsets returns all lists of some of the numbers, ascending: the shorter ones first, then number by number.
func subsets(numbers []int) [][]int {
	var all [][]int
	for set := range 1 << len(numbers) {
		var l []int
		for i, n := range numbers {
			if set>>i&1 == 1 {
				l = append(l, n)
			}
		}
		all = append(all, l)
	}
	slices.SortFunc(all, func(a, b []int) int {
		return cmp.Or(cmp.Compare(len(a), len(b)), slices.Compare(a, b))
	})
	return all
}

// without returns the numbers that are not left out.
func without(numbers, out []int) []int {
	return slices.DeleteFunc(slices.Clone(numbers), func(n int) bool { return slices.Contains(out, n) })
}

// known is what the tests themselves hold a spelling for: its sound strings, each as digits, in their order.
func known(b api.EaBook, spelling int) []string {
	s := b.Spellings[spelling]
	can := []string{""}
	for _, c := range []byte(s.Text) {
		var next []string
		for _, l := range b.Alphabets[s.Alphabet].Letters {
			if l.Letter != c {
				continue
			}
			for _, start := range can {
				if l.Silent {
					next = append(next, start)
				}
				for sound := range b.Sounds {
					if l.Sounds>>sound&1 == 1 {
						next = append(next, start+string(rune('0'+sound)))
					}
				}
			}
		}
		can = next
	}
	slices.SortFunc(can, func(a, b string) int {
		return cmp.Or(cmp.Compare(len(a), len(b)), strings.Compare(a, b))
	})
	return slices.Compact(can)
}

// shared returns the sound strings that all of some spellings can be, in their order.
func shared(b api.EaBook, spellings []int) []string {
	can := known(b, spellings[0])
	for _, spelling := range spellings[1:] {
		other := known(b, spelling)
		can = slices.DeleteFunc(can, func(s string) bool { return !slices.Contains(other, s) })
	}
	return can
}

// digits returns sounds as digits, sounds the other way.
func digits(sounds []int) string {
	var s strings.Builder
	for _, sound := range sounds {
		s.WriteByte(byte('0' + sound))
	}
	return s.String()
}

func sounds(digits string) []int {
	var l []int
	for _, c := range digits {
		l = append(l, int(c-'0'))
	}
	return l
}

// heardStrings returns all lists of at most long sounds of so many.
func heardStrings(many, long int) [][]int {
	all := [][]int{nil}
	for at := 0; at < len(all); at++ {
		if len(all[at]) == long {
			continue
		}
		for sound := range many {
			all = append(all, append(slices.Clone(all[at]), sound))
		}
	}
	return all
}

// dice returns numbers that are the same in each run.
func dice(seed uint64) *rand.Rand { return rand.New(rand.NewPCG(seed, 1)) }

// anyAlphabet returns an alphabet with so many letters at most.
func anyAlphabet(d *rand.Rand, name string, many, letters int) api.EaAlphabet {
	a := api.EaAlphabet{Name: name}
	for _, c := range d.Perm(26)[:1+d.IntN(letters)] {
		l := api.EaLetter{Letter: byte('a' + c), Sounds: 1 << d.IntN(many), Silent: d.IntN(4) == 0}
		if d.IntN(2) == 0 {
			l.Sounds |= 1 << d.IntN(many)
		}
		if l.Silent && d.IntN(2) == 0 {
			l.Sounds = 0
		}
		a.Letters = append(a.Letters, l)
	}
	return a
}

// anyText returns a text of letters of an alphabet.
func anyText(d *rand.Rand, a api.EaAlphabet, long int) string {
	text := []byte{}
	for range 1 + d.IntN(long) {
		text = append(text, a.Letters[d.IntN(len(a.Letters))].Letter)
	}
	return string(text)
}

// anyBook returns a book with few sounds and short texts, so that spellings often are alike.
func anyBook(d *rand.Rand) api.EaBook {
	b := api.EaBook{Sounds: 1 + d.IntN(api.MaxEaSounds)}
	for _, name := range []string{"roman", "abjad", "rune.3"}[:1+d.IntN(api.MaxEaAlphabets)] {
		b.Alphabets = append(b.Alphabets, anyAlphabet(d, name, b.Sounds, api.MaxEaLetters))
	}
	long := 1 + d.IntN(api.MaxEaText)
	for range d.IntN(api.MaxEaSpellings + 1) {
		alphabet := d.IntN(len(b.Alphabets))
		b.Spellings = append(b.Spellings, api.EaSpelling{Alphabet: alphabet, Text: anyText(d, b.Alphabets[alphabet], long)})
	}
	return b
}

// eachBook calls a test for many books.
func eachBook(t *testing.T, test func(t *testing.T, d *rand.Rand, b api.EaBook)) {
	for seed := range uint64(400) {
		d := dice(seed)
		b := anyBook(d)
		if part, at, e := ear.Check(b); part != 0 || at != 0 || e != api.OK {
			t.Fatalf("Check of %v = %d, %d, %d", b, part, at, e)
		}
		test(t, d, b)
		if t.Failed() {
			t.Fatalf("the book was %+v", b)
		}
	}
}
