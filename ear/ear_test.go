package ear_test

import (
	"math"
	"slices"
	"strings"
	"testing"

	"escribano/api"
	"escribano/ear"
)

// P1.1
func TestName(t *testing.T) {
	for _, s := range []string{"a", "z", "m", "a0", "a9", "a.", "a..", "zz.9a", "abcdefghijklmnop", "a234567890123456"} {
		if !ear.Name(s) {
			t.Errorf("%q is a name", s)
		}
	}
	for _, s := range []string{"", ".", "0", "9a", ".a", "A", "aA", "`", "{", "a`", "a{", "a/", "a:", "a-", "a b", " a", "a ", "a\n", "a\x00", "a\x80", "\xff", "é", "aé", "aａ", "abcdefghijklmnopq", strings.Repeat("a", 1<<20)} {
		if ear.Name(s) {
			t.Errorf("%q is no name", s)
		}
	}
}

// wrong is one thing that is wrong with a book: what Check returns of it.
type wrong struct {
	name     string
	change   func(b *api.EaBook)
	part, at int
	e        api.Errno
}

// withLetter is a change of the letter 1 of the alphabet 1.
func withLetter(change func(l *api.EaLetter)) func(b *api.EaBook) {
	return func(b *api.EaBook) {
		letters := slices.Clone(b.Alphabets[1].Letters)
		change(&letters[1])
		b.Alphabets[1].Letters = letters
	}
}

// wrongs returns what can be wrong, in the order of the errors.
func wrongs() []wrong {
	return []wrong{
		{"no sound", func(b *api.EaBook) { b.Sounds = 0 }, 1, 0, api.ErrRange},
		{"no alphabet", func(b *api.EaBook) { b.Alphabets = nil }, 2, 0, api.ErrLong},
		{"name", func(b *api.EaBook) { b.Alphabets[1].Name = "A" }, 2, 1, api.ErrForm},
		{"name twice", func(b *api.EaBook) { b.Alphabets[1].Name = "roman" }, 2, 1, api.ErrTwice},
		{"too many letters", func(b *api.EaBook) {
			b.Alphabets[1].Letters = append(slices.Clone(b.Alphabets[1].Letters), make([]api.EaLetter, 4)...)
		}, 2, 1, api.ErrLong},
		{"letter", withLetter(func(l *api.EaLetter) { l.Letter = 'Y' }), 2, 1, api.ErrForm},
		{"letter twice", withLetter(func(l *api.EaLetter) { l.Letter = 'k' }), 2, 1, api.ErrTwice},
		{"sound that is none", withLetter(func(l *api.EaLetter) { l.Sounds = 8 }), 2, 1, api.ErrRange},
		{"letter for nothing", withLetter(func(l *api.EaLetter) { l.Sounds, l.Silent = 0, false }), 2, 1, api.ErrArg},
		{"too many spellings", func(b *api.EaBook) { b.Spellings = append(b.Spellings, make([]api.EaSpelling, 2)...) }, 3, 0, api.ErrLong},
		{"no such alphabet", func(b *api.EaBook) { b.Spellings[2].Alphabet = 2 }, 3, 2, api.ErrNone},
		{"text too long", func(b *api.EaBook) { b.Spellings[2].Text = "hkaaaa" }, 3, 2, api.ErrLong},
		{"text", func(b *api.EaBook) { b.Spellings[2].Text = "hkn" }, 3, 2, api.ErrForm},
	}
}

// P1.1: each error
func TestCheckEach(t *testing.T) {
	more := []wrong{
		{"nothing", func(b *api.EaBook) {}, 0, 0, api.OK},
		{"sounds below 0", func(b *api.EaBook) { b.Sounds = math.MinInt }, 1, 0, api.ErrRange},
		{"five sounds", func(b *api.EaBook) { b.Sounds = 5 }, 1, 0, api.ErrRange},
		{"many sounds", func(b *api.EaBook) { b.Sounds = math.MaxInt }, 1, 0, api.ErrRange},
		{"four sounds", func(b *api.EaBook) { b.Sounds = 4 }, 0, 0, api.OK},
		{"two sounds", func(b *api.EaBook) { b.Sounds = 2 }, 2, 0, api.ErrRange},
		{"three alphabets", func(b *api.EaBook) {
			b.Alphabets = append(b.Alphabets, api.EaAlphabet{Name: "c", Letters: b.Alphabets[0].Letters})
		}, 0, 0, api.OK},
		{"four alphabets", func(b *api.EaBook) { b.Alphabets = append(b.Alphabets, b.Alphabets...) }, 2, 0, api.ErrLong},
		{"no name", func(b *api.EaBook) { b.Alphabets[0].Name = "" }, 2, 0, api.ErrForm},
		{"long name", func(b *api.EaBook) { b.Alphabets[0].Name = "abcdefghijklmnopq" }, 2, 0, api.ErrForm},
		{"no letters", func(b *api.EaBook) { b.Alphabets[1].Letters = nil }, 2, 1, api.ErrLong},
		{"six letters", func(b *api.EaBook) {
			b.Alphabets[1].Letters = append(slices.Clone(b.Alphabets[1].Letters), api.EaLetter{Letter: 'a', Sounds: 7}, api.EaLetter{Letter: 'z', Sounds: 7, Silent: true}, api.EaLetter{Letter: 'b', Silent: true})
		}, 0, 0, api.OK},
		{"letter below a", withLetter(func(l *api.EaLetter) { l.Letter = '`' }), 2, 1, api.ErrForm},
		{"letter behind z", withLetter(func(l *api.EaLetter) { l.Letter = '{' }), 2, 1, api.ErrForm},
		{"letter 0", withLetter(func(l *api.EaLetter) { l.Letter = 0 }), 2, 1, api.ErrForm},
		{"letter 255", withLetter(func(l *api.EaLetter) { l.Letter = 255 }), 2, 1, api.ErrForm},
		{"digit as a letter", withLetter(func(l *api.EaLetter) { l.Letter = '1' }), 2, 1, api.ErrForm},
		{"sounds of a letter below 0", withLetter(func(l *api.EaLetter) { l.Sounds = -1 }), 2, 1, api.ErrRange},
		{"least sounds of a letter", withLetter(func(l *api.EaLetter) { l.Sounds = math.MinInt }), 2, 1, api.ErrRange},
		{"a far bit", withLetter(func(l *api.EaLetter) { l.Sounds = 1 << 40 }), 2, 1, api.ErrRange},
		{"all sounds", withLetter(func(l *api.EaLetter) { l.Sounds = 7 }), 0, 0, api.OK},
		{"only silent", withLetter(func(l *api.EaLetter) { l.Sounds = 0 }), 0, 0, api.OK},
		{"letter of two alphabets", withLetter(func(l *api.EaLetter) { l.Letter = 'a' }), 3, 1, api.ErrForm},
		{"no spellings", func(b *api.EaBook) { b.Spellings = nil }, 0, 0, api.OK},
		{"five spellings", func(b *api.EaBook) { b.Spellings = append(b.Spellings, b.Spellings[0]) }, 0, 0, api.OK},
		{"alphabet below 0", func(b *api.EaBook) { b.Spellings[0].Alphabet = -1 }, 3, 0, api.ErrNone},
		{"far alphabet", func(b *api.EaBook) { b.Spellings[0].Alphabet = math.MaxInt }, 3, 0, api.ErrNone},
		{"no text", func(b *api.EaBook) { b.Spellings[3].Text = "" }, 3, 3, api.ErrLong},
		{"text of five letters", func(b *api.EaBook) { b.Spellings[3].Text = "kykyn" }, 0, 0, api.OK},
		{"text of other bytes", func(b *api.EaBook) { b.Spellings[3].Text = "k\xff" }, 3, 3, api.ErrForm},
		{"text of another letter first", func(b *api.EaBook) { b.Spellings[3].Text = "ak" }, 3, 3, api.ErrForm},
	}
	for _, w := range append(wrongs(), more...) {
		b := example()
		w.change(&b)
		part, at, e := ear.Check(b)
		if part != w.part || at != w.at || e != w.e {
			t.Errorf("%s: Check = %d, %d, %d", w.name, part, at, e)
		}
		if e != api.OK {
			want := [7]api.Errno{e, e, e, e, e, e, e}
			if got := errors(b, 9, 9, []int{9, 9}, 9, make([]int, 9)); got != want {
				t.Errorf("%s: errors %v", w.name, got)
			}
		}
	}
}

// P1.1, P1: of two errors the one that is named first, and of two alphabets, letters or spellings with an error the first one
func TestCheckFirst(t *testing.T) {
	all := wrongs()
	for i, w := range all {
		for _, x := range all[i+1:] {
			if w.name == "no alphabet" && x.part == 2 {
				continue // there is no alphabet that could be wrong
			}
			b := example()
			x.change(&b)
			w.change(&b)
			if part, at, e := ear.Check(b); part != w.part || at != w.at || e != w.e {
				t.Errorf("%s, and %s: Check = %d, %d, %d", w.name, x.name, part, at, e)
			}
		}
	}
	for _, c := range []wrong{
		{"alphabets", func(b *api.EaBook) { b.Alphabets[0].Letters, b.Alphabets[1].Name = nil, "" }, 2, 0, api.ErrLong},
		{"letters", func(b *api.EaBook) {
			b.Alphabets[0].Letters[1].Sounds, b.Alphabets[0].Letters[2].Letter = 8, 'a'
		}, 2, 0, api.ErrRange},
		{"letter and alphabet", func(b *api.EaBook) { b.Alphabets[0].Letters[3].Silent, b.Alphabets[1].Name = false, "roman" }, 2, 0, api.ErrArg},
		{"spellings", func(b *api.EaBook) { b.Spellings[1].Text, b.Spellings[2].Alphabet = "a", 7 }, 3, 1, api.ErrForm},
	} {
		b := example()
		c.change(&b)
		if part, at, e := ear.Check(b); part != c.part || at != c.at || e != c.e {
			t.Errorf("%s: Check = %d, %d, %d", c.name, part, at, e)
		}
	}
}

// P1.2 to P1.6, P1: the errors behind that of Check, in their order
func TestErrors(t *testing.T) {
	const ok, arg, long, none, rang = api.OK, api.ErrArg, api.ErrLong, api.ErrNone, api.ErrRange
	for i, c := range []struct {
		spelling, other int
		spellings       []int
		alphabet        int
		heard           []int
		want            [7]api.Errno
	}{
		{0, 1, []int{0, 1}, 0, []int{2, 1}, [7]api.Errno{}},
		{3, 2, []int{3}, 1, []int{2}, [7]api.Errno{}},
		{4, 4, []int{4, 4}, 2, make([]int, 6), [7]api.Errno{none, none, none, none, none, ok, none}},
		{-1, 0, []int{1, 0, -1}, -1, []int{3}, [7]api.Errno{none, none, none, none, none, ok, none}},
		{math.MaxInt, 0, []int{math.MinInt}, math.MaxInt, nil, [7]api.Errno{none, none, none, none, none, ok, none}},
		{0, 4, []int{0, 4}, 0, []int{0}, [7]api.Errno{ok, ok, ok, none, none, ok, ok}},
		{0, 0, nil, 0, []int{9, 0, 0, 0, 0, 0}, [7]api.Errno{ok, ok, long, arg, arg, ok, long}},
		{0, 0, []int{}, 0, []int{0, 0, 0, 0, 3}, [7]api.Errno{ok, ok, rang, arg, arg, ok, rang}},
		{2, 2, []int{1, 1}, 0, []int{-1}, [7]api.Errno{ok, ok, rang, arg, arg, ok, rang}},
		{2, 2, []int{0, 2, 1}, 1, []int{math.MaxInt}, [7]api.Errno{ok, ok, rang, arg, arg, ok, rang}},
	} {
		if got := errors(example(), c.spelling, c.other, c.spellings, c.alphabet, c.heard); got != c.want {
			t.Errorf("%d: errors %v", i, got)
		}
	}
}

// P1.1 to P1.6, R2: with an error every other result is its zero value
func TestZeroWithError(t *testing.T) {
	bad := example()
	bad.Spellings[3].Text = ""
	for i, b := range []api.EaBook{bad, example()} {
		at, alphabet := 1, 1
		if i == 1 {
			at, alphabet = 4, 2
		}
		n, _ := ear.Count(b, at)
		first, _ := ear.First(b, at)
		reads, _ := ear.Reads(b, at, []int{2})
		alike, _ := ear.Alike(b, 2, at)
		common, _ := ear.Common(b, []int{at})
		spell, _ := ear.Spell(b, alphabet, []int{2})
		if n != 0 || len(first) != 0 || reads || alike != 0 || len(common) != 0 || spell != "" {
			t.Errorf("%d: %d, %v, %t, %d, %v, %q", i, n, first, reads, alike, common, spell)
		}
	}
	if odd, e := ear.Odd(bad); len(odd) != 0 || e != api.ErrLong {
		t.Errorf("Odd = %v, %d", odd, e)
	}
	if s, e := ear.Spell(example(), 1, []int{2, 2, 2, 2, 3}); s != "" || e != api.ErrRange {
		t.Errorf("Spell = %q, %d", s, e)
	}
}

// P1.2
func TestCountFirstReads(t *testing.T) {
	for _, c := range []struct {
		s     string
		many  int
		first string
		yes   []string
		no    []string
	}{
		{"0ke", 2, "20", []string{"20", "21"}, []string{"", "2", "22", "02", "201"}},
		{"1ky", 2, "2", []string{"2", "21"}, []string{"20", "", "1", "12"}},
		{"0hka", 1, "20", []string{"20"}, []string{"2", "0", "02", "200"}},
		{"1kn", 1, "20", []string{"20"}, []string{"2", "21"}},
		{"0h", 1, "", []string{""}, []string{"0"}},
		{"0hhhhh", 1, "", []string{""}, []string{"00000"}},
		{"1yyyyy", 6, "", []string{"", "1", "11", "11111"}, []string{"0", "01"}},
		{"0eeeee", 32, "00000", []string{"01010", "11111"}, []string{"0000", "00002"}},
		{"1yny", 4, "0", []string{"0", "01", "10", "101"}, []string{"1", "11", "110"}},
		{"1nyk", 2, "02", []string{"02", "012"}, []string{"021", "12"}},
	} {
		b := spelled(c.s)
		if n := must[int](t)(ear.Count(b, 0)); n != c.many {
			t.Errorf("Count of %s = %d", c.s, n)
		}
		if l := must[[]int](t)(ear.First(b, 0)); digits(l) != c.first {
			t.Errorf("First of %s = %v", c.s, l)
		}
		for _, heard := range append(c.yes, c.no...) {
			if is := must[bool](t)(ear.Reads(b, 0, sounds(heard))); is != slices.Contains(c.yes, heard) {
				t.Errorf("Reads of %s, %s = %t", c.s, heard, is)
			}
		}
	}
	most := api.EaBook{Sounds: 4, Alphabets: []api.EaAlphabet{{Name: "a", Letters: []api.EaLetter{{Letter: 'x', Sounds: 15, Silent: true}}}}, Spellings: []api.EaSpelling{{Text: "xxxxx"}}}
	if n := must[int](t)(ear.Count(most, 0)); n != 1365 {
		t.Errorf("Count = %d", n)
	}
}

// P1.3
func TestAlike(t *testing.T) {
	for _, c := range []struct {
		one, other string
		want       int
	}{
		{"0hka", "1kn", api.Must}, {"0ke", "1ky", api.May}, {"1ky", "0hka", api.Never}, {"0ke", "0hka", api.May}, {"1ky", "1kn", api.Never},
		{"0e", "0e", api.May}, {"0a", "0a", api.Must}, {"0h", "0hh", api.Must}, {"0h", "1y", api.May}, {"0a", "0aa", api.Never}, {"0a", "0e", api.May}, {"0ak", "0ka", api.Never},
	} {
		b := spelled(c.one, c.other)
		if n, m := must[int](t)(ear.Alike(b, 0, 1)), must[int](t)(ear.Alike(b, 1, 0)); n != c.want || m != c.want {
			t.Errorf("Alike of %s, %s = %d, %d", c.one, c.other, n, m)
		}
	}
}

// P1.4
func TestCommon(t *testing.T) {
	for _, c := range []struct {
		spellings []string
		which     []int
		want      string
		e         api.Errno
	}{
		{[]string{"0ke", "1ky"}, []int{0, 1}, "21", api.OK},
		{[]string{"0ke", "1ky", "0hka", "1kn"}, []int{0, 2, 3}, "20", api.OK},
		{[]string{"0ke", "1ky", "0hka"}, []int{1, 2}, "", api.ErrDown},
		{[]string{"0ke", "1ky", "0hka"}, []int{0, 1, 2}, "", api.ErrDown},
		{[]string{"1ky"}, []int{0}, "2", api.OK},
		{[]string{"0h", "1yy"}, []int{0, 1}, "", api.OK},
		{[]string{"0ee", "0ee"}, []int{0, 1}, "00", api.OK},
		{[]string{"1yk", "1ky"}, []int{0, 1}, "2", api.OK},
		{[]string{"0a", "0a", "0a", "0a", "0k"}, []int{0, 1, 2, 3}, "0", api.OK},
	} {
		if l, e := ear.Common(spelled(c.spellings...), c.which); digits(l) != c.want || e != c.e {
			t.Errorf("Common of %v, %v = %v, %d", c.spellings, c.which, l, e)
		}
	}
}

// P1.5
func TestOdd(t *testing.T) {
	for _, c := range []struct {
		spellings []string
		want      []int
	}{
		{nil, nil}, {[]string{"0a"}, nil}, {[]string{"0a", "1n"}, nil}, {[]string{"0ke", "1ky", "0hka", "1kn"}, []int{1}},
		{[]string{"0a", "0k"}, []int{0}}, {[]string{"0a", "0k", "1n"}, []int{1}}, {[]string{"0e", "0a", "1y"}, []int{1}},
		{[]string{"0a", "0k", "0a", "0k"}, []int{0, 2}}, {[]string{"0a", "0aa", "0k", "0kk"}, []int{0, 1, 2}},
		{[]string{"0k", "0a", "0a", "0k", "1k"}, []int{1, 2}}, {[]string{"0a", "0k", "0aa", "0kk", "0ka"}, []int{0, 1, 2, 3}},
		{[]string{"1y", "1yy", "1yyy", "0h", "0a"}, []int{4}},
	} {
		if l := must[[]int](t)(ear.Odd(spelled(c.spellings...))); !slices.Equal(l, c.want) {
			t.Errorf("Odd of %v = %v", c.spellings, l)
		}
	}
}

// P1.6
func TestSpell(t *testing.T) {
	b := example()
	b.Alphabets = append(b.Alphabets, api.EaAlphabet{Name: "few", Letters: []api.EaLetter{{Letter: 'z', Sounds: 4}, {Letter: 'b', Sounds: 5}}})
	for _, c := range []struct {
		alphabet    int
		heard, want string
		e           api.Errno
	}{
		{0, "21", "ke", api.OK}, {1, "2", "k", api.OK}, {1, "00", "nn", api.OK}, {0, "00", "aa", api.OK}, {0, "", "h", api.OK}, {1, "", "y", api.OK},
		{0, "01201", "aekae", api.OK}, {1, "11111", "yyyyy", api.OK}, {2, "20", "zb", api.OK}, {2, "", "", api.ErrDown}, {2, "1", "", api.ErrDown}, {2, "201", "", api.ErrDown}, {2, "102", "", api.ErrDown},
	} {
		if s, e := ear.Spell(b, c.alphabet, sounds(c.heard)); s != c.want || e != c.e {
			t.Errorf("Spell of %d, %s = %q, %d", c.alphabet, c.heard, s, e)
		}
	}
	slices.Reverse(b.Alphabets[0].Letters)
	if s, e := ear.Spell(b, 0, []int{0, 0}); s != "ee" || e != api.OK {
		t.Errorf("Spell = %q, %d", s, e)
	}
}

// the chapter's examples
func TestExamples(t *testing.T) {
	b := example()
	for spelling, want := range []int{2, 2, 1} {
		if n := must[int](t)(ear.Count(b, spelling)); n != want {
			t.Errorf("Count of %d = %d", spelling, n)
		}
	}
	for spelling, want := range [][]int{{2, 0}, {2}} {
		if l := must[[]int](t)(ear.First(b, spelling)); !slices.Equal(l, want) {
			t.Errorf("First of %d = %v", spelling, l)
		}
	}
	if !must[bool](t)(ear.Reads(b, 1, []int{2, 1})) || must[bool](t)(ear.Reads(b, 1, []int{2, 0})) {
		t.Error("Reads")
	}
	for _, c := range [][3]int{{2, 3, api.Must}, {0, 1, api.May}, {1, 2, api.Never}} {
		if n := must[int](t)(ear.Alike(b, c[0], c[1])); n != c[2] {
			t.Errorf("Alike of %v = %d", c, n)
		}
	}
	if l := must[[]int](t)(ear.Common(b, []int{0, 1})); !slices.Equal(l, []int{2, 1}) {
		t.Errorf("Common = %v", l)
	}
	if l := must[[]int](t)(ear.Common(b, []int{0, 2, 3})); !slices.Equal(l, []int{2, 0}) {
		t.Errorf("Common = %v", l)
	}
	if l, e := ear.Common(b, []int{1, 2}); len(l) != 0 || e != api.ErrDown {
		t.Errorf("Common = %v, %d", l, e)
	}
	if l := must[[]int](t)(ear.Odd(b)); !slices.Equal(l, []int{1}) {
		t.Errorf("Odd = %v", l)
	}
	if s := must[string](t)(ear.Spell(b, 0, []int{2, 1})); s != "ke" {
		t.Errorf("Spell = %q", s)
	}
	if s := must[string](t)(ear.Spell(b, 1, []int{2})); s != "k" {
		t.Errorf("Spell = %q", s)
	}
	if s := must[string](t)(ear.Spell(b, 1, []int{0, 0})); s != "nn" {
		t.Errorf("Spell = %q", s)
	}
}
