package ear_test

import (
	"cmp"
	"math"
	"math/rand/v2"
	"slices"
	"strings"
	"testing"

	"escribano/api"
	"escribano/ear"
)

// P1.2: what the tests hold a spelling for
func TestKnownStrings(t *testing.T) {
	eachBook(t, func(t *testing.T, d *rand.Rand, b api.EaBook) {
		heard := heardStrings(b.Sounds, 3)
		for spelling := range b.Spellings {
			can := known(b, spelling)
			if n := must[int](t)(ear.Count(b, spelling)); n != len(can) {
				t.Errorf("Count of %d = %d, not %d", spelling, n, len(can))
			}
			if l := must[[]int](t)(ear.First(b, spelling)); digits(l) != can[0] {
				t.Errorf("First of %d = %v, not %s", spelling, l, can[0])
			}
			for _, h := range append(heard, sounds(can[len(can)-1])) {
				if is := must[bool](t)(ear.Reads(b, spelling, h)); is != slices.Contains(can, digits(h)) {
					t.Errorf("Reads of %d, %v = %t", spelling, h, is)
				}
			}
		}
	})
}

// P1.3, P1.4: what two spellings have in common
func TestKnownAlike(t *testing.T) {
	eachBook(t, func(t *testing.T, d *rand.Rand, b api.EaBook) {
		for one := range b.Spellings {
			for other := range b.Spellings {
				if one == other {
					continue
				}
				want := api.May
				if both := shared(b, []int{one, other}); len(both) == 0 {
					want = api.Never
				} else if len(both) == 1 && len(known(b, one)) == 1 && len(known(b, other)) == 1 {
					want = api.Must
				}
				if n := must[int](t)(ear.Alike(b, one, other)); n != want {
					t.Errorf("Alike of %d, %d = %d, not %d", one, other, n, want)
				}
			}
		}
		for _, l := range subsets(numbersBelow(len(b.Spellings)))[1:] {
			want, none := "", api.ErrDown
			if all := shared(b, l); len(all) > 0 {
				want, none = all[0], api.OK
			}
			if s, e := ear.Common(b, l); digits(s) != want || e != none {
				t.Errorf("Common of %v = %v, %d, not %q, %d", l, s, e, want, none)
			}
		}
	})
}

// written is how a writer writes sounds in an alphabet: a letter for each, and silent ones between them; no text if there is no letter for one, or the text would be empty.
func written(d *rand.Rand, a api.EaAlphabet, said []int) string {
	text := []byte{}
	silent := func() {
		for _, l := range a.Letters {
			if l.Silent && len(text)+len(said) < api.MaxEaText && d.IntN(3) == 0 {
				text = append(text, l.Letter)
			}
		}
	}
	for len(said) > 0 {
		silent()
		can := slices.DeleteFunc(slices.Clone(a.Letters), func(l api.EaLetter) bool { return l.Sounds>>said[0]&1 == 0 })
		if len(can) == 0 {
			return ""
		}
		text = append(text, can[d.IntN(len(can))].Letter)
		said = said[1:]
	}
	silent()
	return string(text)
}

// P1.7
func TestWhatWasSaid(t *testing.T) {
	spellings := 0
	eachBook(t, func(t *testing.T, d *rand.Rand, b api.EaBook) {
		names := [][]int{sounds("0123"[:d.IntN(b.Sounds)+1]), {d.IntN(b.Sounds)}, nil}
		b.Spellings = nil
		var said []int
		for range api.MaxEaSpellings {
			name, alphabet := d.IntN(len(names)), d.IntN(len(b.Alphabets))
			if text := written(d, b.Alphabets[alphabet], names[name]); text != "" {
				b.Spellings = append(b.Spellings, api.EaSpelling{Alphabet: alphabet, Text: text})
				said = append(said, name)
			}
		}
		spellings += len(said)
		most := len(said)
		for name := range names {
			others := 0
			for one, x := range said {
				if x != name {
					others++
					continue
				}
				if !must[bool](t)(ear.Reads(b, one, names[name])) {
					t.Errorf("Reads of %d, %v", one, names[name])
				}
				for other, y := range said {
					if other != one && y == name && must[int](t)(ear.Alike(b, one, other)) == api.Never {
						t.Errorf("Alike of %d, %d is Never", one, other)
					}
				}
			}
			most = min(most, others)
		}
		if l := must[[]int](t)(ear.Odd(b)); len(l) > most {
			t.Errorf("Odd = %v: more than %d", l, most)
		}
		for one := range said {
			for other := range one {
				pair := b
				pair.Spellings = []api.EaSpelling{b.Spellings[other], b.Spellings[one]}
				if l := must[[]int](t)(ear.Odd(pair)); said[one] == said[other] && len(l) > 0 {
					t.Errorf("Odd of %d, %d = %v", other, one, l)
				}
			}
		}
	})
	if spellings < 500 {
		t.Errorf("only %d spellings", spellings)
	}
}

// P1.8
func TestNeverJoined(t *testing.T) {
	eachBook(t, func(t *testing.T, d *rand.Rand, b api.EaBook) {
		alike := func(one, other int) int {
			return must[int](t)(ear.Alike(b, one, other))
		}
		all := numbersBelow(len(b.Spellings))
		for _, l := range subsets(all) {
			if len(l) == 2 && alike(l[0], l[1]) == api.Never {
				if s, e := ear.Common(b, l); len(s) != 0 || e != api.ErrDown {
					t.Errorf("Common of %v = %v, %d", l, s, e)
				}
			}
			if len(l) != 3 {
				continue
			}
			for i := range l {
				x, y, z := l[i], l[(i+1)%3], l[(i+2)%3]
				if alike(x, y) == api.Must && alike(y, z) == api.Must && alike(x, z) != api.Must {
					t.Errorf("%d, %d and %d", x, y, z)
				}
			}
		}
	})
	b := spelled("0hka", "1kn", "0ka", "0hkah")
	for _, l := range subsets(numbersBelow(4)) {
		if len(l) == 2 && must[int](t)(ear.Alike(b, l[0], l[1])) != api.Must {
			t.Errorf("Alike of %v is not Must", l)
		}
	}
}

// P1.5, P1.9
func TestFewest(t *testing.T) {
	eachBook(t, func(t *testing.T, d *rand.Rand, b api.EaBook) {
		all := numbersBelow(len(b.Spellings))
		odd := must[[]int](t)(ear.Odd(b))
		if left := without(all, odd); len(left) > 0 {
			if l, e := ear.Common(b, left); e != api.OK {
				t.Errorf("Common of %v = %v, %d", left, l, e)
			}
		}
		for _, l := range subsets(all) {
			if len(l) > len(odd) || len(l) == len(odd) && slices.Compare(l, odd) >= 0 {
				break
			}
			if left := without(all, l); len(left) == 0 || len(shared(b, left)) > 0 {
				t.Errorf("Odd = %v, not %v", odd, l)
			} else if s, e := ear.Common(b, left); e != api.ErrDown {
				t.Errorf("Common of %v = %v, %d", left, s, e)
			}
		}
	})
}

// P1.6, P1.10
func TestSpelt(t *testing.T) {
	for seed := range uint64(60) {
		d := dice(seed)
		b := api.EaBook{Sounds: 1 + d.IntN(3)}
		b.Alphabets = []api.EaAlphabet{anyAlphabet(d, "other", b.Sounds, 6), anyAlphabet(d, "small", b.Sounds, 3)}
		var texts [][]int // as indices of letters, the shorter ones first
		for _, l := range heardStrings(len(b.Alphabets[1].Letters), 3) {
			if len(l) > 0 {
				texts = append(texts, l)
			}
		}
		slices.SortFunc(texts, func(x, y []int) int { return cmp.Or(cmp.Compare(len(x), len(y)), slices.Compare(x, y)) })
		for _, heard := range heardStrings(b.Sounds, 3) {
			want, none := "", api.ErrDown
			for _, l := range texts {
				var text strings.Builder
				for _, i := range l {
					text.WriteByte(b.Alphabets[1].Letters[i].Letter)
				}
				b.Spellings = []api.EaSpelling{{Alphabet: 1, Text: text.String()}}
				if must[bool](t)(ear.Reads(b, 0, heard)) {
					want, none = text.String(), api.OK
					break
				}
			}
			if s, e := ear.Spell(b, 1, heard); s != want || e != none {
				t.Errorf("%+v: Spell of %v = %q, %d, not %q", b.Alphabets[1], heard, s, e, want)
			}
		}
	}
}

// P1.11
func TestMoreSounds(t *testing.T) {
	eachBook(t, func(t *testing.T, d *rand.Rand, b api.EaBook) {
		more := cloned(b)
		a := more.Alphabets[d.IntN(len(more.Alphabets))].Letters
		l := &a[d.IntN(len(a))]
		if d.IntN(2) == 0 {
			l.Silent = true
		} else {
			l.Sounds |= 1 << d.IntN(b.Sounds)
		}
		for one := range b.Spellings {
			for _, s := range known(b, one) {
				if !must[bool](t)(ear.Reads(more, one, sounds(s))) {
					t.Errorf("Reads of %d, %s is lost", one, s)
				}
			}
			if was, is := must[int](t)(ear.Count(b, one)), must[int](t)(ear.Count(more, one)); is < was {
				t.Errorf("Count of %d = %d, was %d", one, is, was)
			}
			for other := range one {
				was, is := must[int](t)(ear.Alike(b, one, other)), must[int](t)(ear.Alike(more, one, other))
				if was != api.Never && is == api.Never {
					t.Errorf("Alike of %d, %d was %d", one, other, was)
				}
			}
		}
		if was, is := must[[]int](t)(ear.Odd(b)), must[[]int](t)(ear.Odd(more)); len(is) > len(was) {
			t.Errorf("Odd = %v, was %v", is, was)
		}
	})
}

// P1.12
func TestCounted(t *testing.T) {
	eachBook(t, func(t *testing.T, d *rand.Rand, b api.EaBook) {
		for spelling, s := range b.Spellings {
			ways := 1
			for _, c := range []byte(s.Text) {
				at := slices.IndexFunc(b.Alphabets[s.Alphabet].Letters, func(l api.EaLetter) bool { return l.Letter == c })
				l := b.Alphabets[s.Alphabet].Letters[at]
				things := 0
				if l.Silent {
					things++
				}
				for sound := range b.Sounds {
					things += l.Sounds >> sound & 1
				}
				ways *= things
			}
			n := must[int](t)(ear.Count(b, spelling))
			if n < 1 || n > ways {
				t.Errorf("Count of %d = %d of %d ways", spelling, n, ways)
			}
		}
	})
}

// P1.13
func TestInCommon(t *testing.T) {
	eachBook(t, func(t *testing.T, d *rand.Rand, b api.EaBook) {
		for _, l := range subsets(numbersBelow(len(b.Spellings)))[1:] {
			s, e := ear.Common(b, l)
			if e != api.OK {
				continue
			}
			for _, spelling := range l {
				if !must[bool](t)(ear.Reads(b, spelling, s)) {
					t.Errorf("Reads of %d, %v", spelling, s)
				}
				less := without(l, []int{spelling})
				if len(less) == 0 {
					continue
				}
				if x := must[[]int](t)(ear.Common(b, less)); len(x) > len(s) || len(x) == len(s) && slices.Compare(x, s) > 0 {
					t.Errorf("Common of %v = %v, of %v = %v", l, s, less, x)
				}
			}
		}
	})
}

// P1.14: letters in another order
func TestOtherLetterOrder(t *testing.T) {
	eachBook(t, func(t *testing.T, d *rand.Rand, b api.EaBook) {
		other := cloned(b)
		for _, a := range other.Alphabets {
			d.Shuffle(len(a.Letters), func(i, j int) { a.Letters[i], a.Letters[j] = a.Letters[j], a.Letters[i] })
		}
		for one := range b.Spellings {
			if x, y := must[int](t)(ear.Count(b, one)), must[int](t)(ear.Count(other, one)); x != y {
				t.Errorf("Count of %d = %d, %d", one, x, y)
			}
			if x, y := must[[]int](t)(ear.First(b, one)), must[[]int](t)(ear.First(other, one)); !slices.Equal(x, y) {
				t.Errorf("First of %d = %v, %v", one, x, y)
			}
			for _, heard := range heardStrings(b.Sounds, 2) {
				if must[bool](t)(ear.Reads(b, one, heard)) != must[bool](t)(ear.Reads(other, one, heard)) {
					t.Errorf("Reads of %d, %v", one, heard)
				}
			}
			for two := range one {
				if x, y := must[int](t)(ear.Alike(b, one, two)), must[int](t)(ear.Alike(other, one, two)); x != y {
					t.Errorf("Alike of %d, %d = %d, %d", one, two, x, y)
				}
			}
		}
		for _, l := range subsets(numbersBelow(len(b.Spellings)))[1:] {
			x, e := ear.Common(b, l)
			if y, f := ear.Common(other, l); !slices.Equal(x, y) || e != f {
				t.Errorf("Common of %v = %v, %d, %v, %d", l, x, e, y, f)
			}
		}
		if x, y := must[[]int](t)(ear.Odd(b)), must[[]int](t)(ear.Odd(other)); !slices.Equal(x, y) {
			t.Errorf("Odd = %v, %v", x, y)
		}
	})
}

// P1.14: sounds with other numbers
func TestOtherNumbers(t *testing.T) {
	eachBook(t, func(t *testing.T, d *rand.Rand, b api.EaBook) {
		other := cloned(b)
		number := d.Perm(b.Sounds)
		for _, a := range other.Alphabets {
			for i, l := range a.Letters {
				a.Letters[i].Sounds = 0
				for sound := range b.Sounds {
					a.Letters[i].Sounds |= l.Sounds >> sound & 1 << number[sound]
				}
			}
		}
		for one := range b.Spellings {
			if x, y := must[int](t)(ear.Count(b, one)), must[int](t)(ear.Count(other, one)); x != y {
				t.Errorf("Count of %d = %d, %d", one, x, y)
			}
			for two := range one {
				if x, y := must[int](t)(ear.Alike(b, one, two)), must[int](t)(ear.Alike(other, one, two)); x != y {
					t.Errorf("Alike of %d, %d = %d, %d", one, two, x, y)
				}
			}
		}
		if x, y := must[[]int](t)(ear.Odd(b)), must[[]int](t)(ear.Odd(other)); len(x) != len(y) {
			t.Errorf("Odd = %v, %v", x, y)
		}
	})
}

// P1.15: arguments stay as they are
func TestNotModified(t *testing.T) {
	eachBook(t, func(t *testing.T, d *rand.Rand, b api.EaBook) {
		was := cloned(b)
		heard := []int{d.IntN(b.Sounds), d.IntN(b.Sounds)}
		spellings := numbersBelow(len(b.Spellings))
		heardWas, spellingsWas := slices.Clone(heard), slices.Clone(spellings)
		first := errors(b, 0, 1, spellings, 0, heard)
		if !sameBook(b, was) || !slices.Equal(heard, heardWas) || !slices.Equal(spellings, spellingsWas) {
			t.Error("an argument was modified")
		}
		if again := errors(b, 0, 1, spellings, 0, heard); again != first {
			t.Errorf("errors %v, then %v", first, again)
		}
	})
}

// P1.15: a result is new memory, and nothing is kept between calls
func TestNewMemory(t *testing.T) {
	spellings := []int{0, 2, 3}
	results := func() [][]int {
		return [][]int{must[[]int](t)(ear.First(example(), 0)), must[[]int](t)(ear.Common(example(), spellings)), must[[]int](t)(ear.Odd(example()))}
	}
	once, twice := results(), results()
	for i, l := range once {
		for at := range l {
			l[at] = 77
		}
		if slices.Contains(twice[i], 77) || slices.Contains(spellings, 77) {
			t.Errorf("%d: memory is shared", i)
		}
	}
	for i, l := range results() {
		if !slices.Equal(l, twice[i]) {
			t.Errorf("%d: %v, then %v", i, twice[i], l)
		}
	}
}

// wildInt returns a number, often one that is just at a limit or far beyond it.
func wildInt(d *rand.Rand) int {
	wild := []int{math.MinInt, -1 << 32, -2, -1, 0, 1, 2, 3, 4, 5, 6, 7, 15, 16, 63, 64, 1 << 32, math.MaxInt - 1, math.MaxInt}
	return wild[d.IntN(len(wild))]
}

// wildList returns a list of such numbers.
func wildList(d *rand.Rand) []int {
	var l []int
	for range d.IntN(8) {
		l = append(l, wildInt(d))
	}
	return l
}

// wildBook returns a book with things in it that are not valid.
func wildBook(d *rand.Rand) api.EaBook {
	b := anyBook(d)
	for range d.IntN(4) {
		a := &b.Alphabets[d.IntN(len(b.Alphabets))]
		switch d.IntN(7) {
		case 0:
			b.Sounds = wildInt(d)
		case 1:
			a.Name = []string{"", "a", "A", "roman", strings.Repeat("z", 40)}[d.IntN(5)]
		case 2:
			a.Letters = make([]api.EaLetter, d.IntN(9))
		case 3:
			if len(a.Letters) > 0 {
				a.Letters[0] = api.EaLetter{Letter: byte(d.IntN(256)), Sounds: wildInt(d), Silent: d.IntN(2) == 0}
			}
		case 4:
			b.Spellings = make([]api.EaSpelling, d.IntN(9))
		case 5:
			b.Spellings = append(b.Spellings, api.EaSpelling{Alphabet: wildInt(d), Text: "a"})
		case 6:
			b.Spellings = append(b.Spellings, api.EaSpelling{Text: []string{"", "\xff", "a\x00", "aaaaaaaa", "é"}[d.IntN(5)]})
		}
	}
	return b
}

// P1, P1.15: any arguments are accepted, and all functions tell the same error of a book
func TestAnyArguments(t *testing.T) {
	wrong := 0
	for seed := range uint64(4000) {
		d := dice(seed)
		b := wildBook(d)
		part, at, e := ear.Check(b)
		got := errors(b, wildInt(d), wildInt(d), wildList(d), wildInt(d), wildList(d))
		if e == api.OK {
			if part != 0 || at != 0 || got[5] != api.OK {
				t.Errorf("%+v: Check = %d, %d, Odd's error %d", b, part, at, got[5])
			}
			continue
		}
		wrong++
		if want := [7]api.Errno{e, e, e, e, e, e, e}; part == 0 || got != want {
			t.Errorf("%+v: Check = %d, %d, %d, errors %v", b, part, at, e, got)
		}
	}
	if wrong < 1000 {
		t.Errorf("only %d books are not valid", wrong)
	}
	var none api.EaBook
	if part, at, e := ear.Check(none); part != 1 || at != 0 || e != api.ErrRange {
		t.Errorf("Check = %d, %d, %d", part, at, e)
	}
	errors(none, 0, 0, nil, 0, nil)
	many := make([]int, 1<<20)
	if got := errors(example(), 0, 1, many, 0, many); got[2] != api.ErrLong || got[4] != api.ErrArg || got[6] != api.ErrLong {
		t.Errorf("errors %v", got)
	}
}
