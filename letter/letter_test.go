package letter_test

import (
	"math"
	"slices"
	"strings"
	"testing"

	"escribano/api"
	"escribano/letter"
)

// wrong is one thing that is wrong with a shelf: what Check returns of it.
type wrong struct {
	name     string
	change   func(s *api.LeShelf)
	part, at int
	e        api.Errno
}

// withForm is a change of the form 1.
func withForm(change func(f *api.LeForm)) func(s *api.LeShelf) {
	return func(s *api.LeShelf) {
		f := s.Forms[1]
		change(&f)
		s.Forms[1] = f
	}
}

// withPart is a change of a part of the form 1, of which the part 1 has words, the others are room.
func withPart(at int, change func(p *api.LePart)) func(s *api.LeShelf) {
	return withForm(func(f *api.LeForm) {
		f.Parts = slices.Clone(f.Parts)
		change(&f.Parts[at])
	})
}

// withRoom is a change of the last part of the form 1 to this room.
func withRoom(lo, hi int) func(s *api.LeShelf) {
	return withPart(2, func(p *api.LePart) { *p = room(lo, hi) })
}

// wrongs returns what can be wrong, in the order of the errors.
func wrongs() []wrong {
	return []wrong{
		{"narrow", func(s *api.LeShelf) { s.Width = 7 }, 1, 0, api.ErrRange},
		{"too many forms", func(s *api.LeShelf) { s.Forms = append(s.Forms, s.Forms...) }, 2, 0, api.ErrLong},
		{"name", withForm(func(f *api.LeForm) { f.Name = "Note" }), 2, 1, api.ErrForm},
		{"name twice", withForm(func(f *api.LeForm) { f.Name = "plea" }), 2, 1, api.ErrTwice},
		{"too many parts", withForm(func(f *api.LeForm) { f.Parts = append(slices.Clone(f.Parts), f.Parts...) }), 2, 1, api.ErrLong},
		{"too many words", withPart(1, func(p *api.LePart) { p.Words = append(slices.Clone(p.Words), "a", "b") }), 2, 1, api.ErrLong},
		{"no word", withPart(1, func(p *api.LePart) { p.Words = slices.Clone(p.Words); p.Words[1] = "aSk" }), 2, 1, api.ErrForm},
		{"words and room", withPart(1, func(p *api.LePart) { p.Room.Hi = 1 }), 2, 1, api.ErrArg},
		{"too much room", withRoom(0, 4), 2, 1, api.ErrRange},
		{"room turned round", withRoom(2, 1), 2, 1, api.ErrArg},
	}
}

// P2.1: each error
func TestCheckEach(t *testing.T) {
	more := []wrong{
		{"nothing", func(s *api.LeShelf) {}, 0, 0, api.OK},
		{"no width", func(s *api.LeShelf) { s.Width = 0 }, 1, 0, api.ErrRange},
		{"least width", func(s *api.LeShelf) { s.Width = math.MinInt }, 1, 0, api.ErrRange},
		{"wide", func(s *api.LeShelf) { s.Width = 31 }, 1, 0, api.ErrRange},
		{"very wide", func(s *api.LeShelf) { s.Width = math.MaxInt }, 1, 0, api.ErrRange},
		{"as narrow as can be", func(s *api.LeShelf) { s.Width = 8 }, 0, 0, api.OK},
		{"as wide as can be", func(s *api.LeShelf) { s.Width = 30 }, 0, 0, api.OK},
		{"no forms", func(s *api.LeShelf) { s.Forms = nil }, 0, 0, api.OK},
		{"four forms", func(s *api.LeShelf) { s.Forms = append(s.Forms, formOf("z")) }, 0, 0, api.OK},
		{"five forms", func(s *api.LeShelf) { s.Forms = append(s.Forms, formOf("y"), formOf("z")) }, 2, 0, api.ErrLong},
		{"no name", func(s *api.LeShelf) { s.Forms[0].Name = "" }, 2, 0, api.ErrForm},
		{"long name", func(s *api.LeShelf) { s.Forms[2].Name = strings.Repeat("a", 17) }, 2, 2, api.ErrForm},
		{"name as long as can be", func(s *api.LeShelf) { s.Forms[2].Name = "a.2" + strings.Repeat("z", 13) }, 0, 0, api.OK},
		{"name of the next but one", func(s *api.LeShelf) { s.Forms[2].Name = "plea" }, 2, 2, api.ErrTwice},
		{"no parts", withForm(func(f *api.LeForm) { f.Parts = nil }), 0, 0, api.OK},
		{"five parts", withForm(func(f *api.LeForm) { f.Parts = slices.Repeat([]api.LePart{room(3, 3)}, 5) }), 0, 0, api.OK},
		{"three words", withPart(1, func(p *api.LePart) { p.Words = words("i ask harbours") }), 0, 0, api.OK},
		{"the same word twice", withPart(1, func(p *api.LePart) { p.Words = words("a a a") }), 0, 0, api.OK},
		{"empty word", withPart(1, func(p *api.LePart) { p.Words = []string{"i", ""} }), 2, 1, api.ErrForm},
		{"one empty word", withPart(1, func(p *api.LePart) { p.Words = []string{""} }), 2, 1, api.ErrForm},
		{"nine bytes", withPart(1, func(p *api.LePart) { p.Words = words("harbourss") }), 2, 1, api.ErrForm},
		{"digit", withPart(1, func(p *api.LePart) { p.Words = words("a1") }), 2, 1, api.ErrForm},
		{"other bytes", withPart(1, func(p *api.LePart) { p.Words = []string{"a\xff"} }), 2, 1, api.ErrForm},
		{"letter of two bytes", withPart(1, func(p *api.LePart) { p.Words = []string{"é"} }), 2, 1, api.ErrForm},
		{"below a", withPart(1, func(p *api.LePart) { p.Words = []string{"`"} }), 2, 1, api.ErrForm},
		{"behind z", withPart(1, func(p *api.LePart) { p.Words = []string{"z{"} }), 2, 1, api.ErrForm},
		{"two words in one", withPart(1, func(p *api.LePart) { p.Words = []string{"i ask"} }), 2, 1, api.ErrForm},
		{"words and room from 1", withPart(1, func(p *api.LePart) { p.Room = api.Span{Lo: 1, Hi: 1} }), 2, 1, api.ErrArg},
		{"words and Lo alone", withPart(1, func(p *api.LePart) { p.Room.Lo = -1 }), 2, 1, api.ErrArg},
		{"words and room far off", withPart(1, func(p *api.LePart) { p.Room = api.Span{Lo: math.MinInt, Hi: math.MaxInt} }), 2, 1, api.ErrArg},
		{"neither words nor room", withRoom(0, 0), 2, 1, api.ErrRange},
		{"no room, and turned round", withRoom(1, 0), 2, 1, api.ErrRange},
		{"room below 0", withRoom(-1, 2), 2, 1, api.ErrRange},
		{"all room below 0", withRoom(-2, -1), 2, 1, api.ErrRange},
		{"too much Lo", withRoom(4, 3), 2, 1, api.ErrRange},
		{"room far off", withRoom(math.MinInt, math.MaxInt), 2, 1, api.ErrRange},
		{"room turned round by far", withRoom(3, 1), 2, 1, api.ErrArg},
		{"all room", withRoom(0, 3), 0, 0, api.OK},
		{"full room", withRoom(3, 3), 0, 0, api.OK},
		{"one room", withRoom(0, 1), 0, 0, api.OK},
	}
	for _, w := range append(wrongs(), more...) {
		s := example()
		w.change(&s)
		part, at, e := letter.Check(s)
		if part != w.part || at != w.at || e != w.e {
			t.Errorf("%s: Check = %d, %d, %d", w.name, part, at, e)
		}
		if e != api.OK {
			want := [7]api.Errno{e, e, e, e, e, e, e}
			if got := errors(s, 9, nil, many("A", 16), "A"+strings.Repeat(" ", 160)); got != want {
				t.Errorf("%s: errors %v", w.name, got)
			}
		}
	}
}

// P2.1, P1: of two errors the one that is named first, and of two forms or parts with an error the first one
func TestCheckFirst(t *testing.T) {
	all := wrongs()
	for i, w := range all {
		for _, x := range all[i+1:] {
			s := example()
			x.change(&s)
			if w.name == "too much room" && x.name == "room turned round" {
				withRoom(3, -1)(&s) // both are of the same room
			} else {
				w.change(&s)
			}
			if part, at, e := letter.Check(s); part != w.part || at != w.at || e != w.e {
				t.Errorf("%s, and %s: Check = %d, %d, %d", w.name, x.name, part, at, e)
			}
		}
	}
	for _, c := range []wrong{
		{"forms", func(s *api.LeShelf) { s.Forms[0].Parts[1].Room.Lo, s.Forms[1].Name = 3, "" }, 2, 0, api.ErrArg},
		{"form and name twice", func(s *api.LeShelf) { s.Forms[1].Parts[0].Room.Hi, s.Forms[2].Name = 9, "plea" }, 2, 1, api.ErrRange},
		{"parts", func(s *api.LeShelf) {
			s.Forms[1].Parts[0].Room.Lo, s.Forms[1].Parts[1].Words = 3, words("a b c d")
		}, 2, 1, api.ErrArg},
		{"part with words, and a part with room", func(s *api.LeShelf) {
			s.Forms[1].Parts[1].Words[0], s.Forms[1].Parts[2].Room.Hi = "", 4
		}, 2, 1, api.ErrForm},
	} {
		s := example()
		c.change(&s)
		if part, at, e := letter.Check(s); part != c.part || at != c.at || e != c.e {
			t.Errorf("%s: Check = %d, %d, %d", c.name, part, at, e)
		}
	}
}

// P2.2 to P2.4, P2.7, P1: the errors behind that of Check, in their order
func TestErrors(t *testing.T) {
	const ok, long, none, form, rang, down = api.OK, api.ErrLong, api.ErrNone, api.ErrForm, api.ErrRange, api.ErrDown
	a := words("to the judge i ask mercy")
	text := "to the judge\ni ask mercy\n"
	for i, c := range []struct {
		form  int
		fills [][]string
		words []string
		text  string
		want  [7]api.Errno
	}{
		{0, fillsOf("judge|mercy"), a, text, [7]api.Errno{}},
		{1, fillsOf("judge|"), a, "", [7]api.Errno{2: down}},
		{2, fillsOf("judge|mercy"), nil, text, [7]api.Errno{2: down}},
		{3, nil, many("A", 16), "A" + strings.Repeat("a", 160), [7]api.Errno{none, long, none, long, long, none, long}},
		{-1, nil, []string{""}, strings.Repeat("a", 160), [7]api.Errno{none, form, none, form, form, none, form}},
		{math.MaxInt, nil, a, text, [7]api.Errno{none, ok, none, ok, ok, none, ok}},
		{math.MinInt, nil, a, text, [7]api.Errno{none, ok, none, ok, ok, none, ok}},
		{0, nil, many("A", 16), "\n", [7]api.Errno{long, long, long, long, form, long, long}},
		{0, fillsOf("judge"), many("a", 16), "a", [7]api.Errno{long, long, long, long, form, long, long}},
		{0, fillsOf("A|a|a"), words("to the judge i ask mercY"), "a  b\n", [7]api.Errno{long, form, form, form, form, form, form}},
		{0, fillsOf("|A"), []string{"harbourss"}, "a b \n", [7]api.Errno{rang, form, form, form, form, form, form}},
		{0, fillsOf("A b c|a"), []string{"a b"}, text, [7]api.Errno{rang, form, form, form, ok, form, form}},
		{0, fillsOf("A|"), []string{"a\n"}, text, [7]api.Errno{form, form, form, form, ok, form, form}},
		{0, fillsOf("a|a b c d"), []string{"a", ""}, text, [7]api.Errno{rang, form, form, form, ok, form, form}},
		{0, fillsOf("a|a b harbourss"), many("a", 15), text, [7]api.Errno{form, ok, down, ok, ok, ok, ok}},
		{0, [][]string{{"a"}, {"a", ""}}, nil, text, [7]api.Errno{form, ok, down, ok, ok, ok, ok}},
	} {
		if got := errors(example(), c.form, c.fills, c.words, c.text); got != c.want {
			t.Errorf("%d: errors %v", i, got)
		}
	}
	if got := errors(shelfOf(8), 0, nil, nil, ""); got != [7]api.Errno{none, ok, none, ok, ok, none, down} {
		t.Errorf("errors %v", got)
	}
	if got := errors(shelfOf(8), 0, nil, []string{"A"}, ""); got != [7]api.Errno{none, form, none, form, ok, none, form} {
		t.Errorf("errors %v", got)
	}
}

// P2.2 to P2.7, R2: with an error every other result is its zero value
func TestZeroWithError(t *testing.T) {
	bad := example()
	bad.Forms[2].Name = ""
	a := words("to the judge i ask mercy")
	for i, c := range []struct {
		s     api.LeShelf
		form  int
		words []string
		text  string
	}{{bad, 0, a, "a\n"}, {example(), 3, words("a B"), "a B\n"}, {example(), 3, many("a", 16), strings.Repeat("a\n", 81)}} {
		made, _ := letter.Make(c.s, c.form, fillsOf("judge|mercy"))
		of, _ := letter.Of(c.s, c.words)
		fills, ways, _ := letter.Fills(c.s, c.form, c.words)
		text, _ := letter.Write(c.s, c.words)
		read, _ := letter.Read(c.s, c.text)
		mend, _ := letter.Mend(c.s, c.form, c.words)
		form, nearest, _ := letter.Nearest(c.s, c.words)
		if len(made) != 0 || len(of) != 0 || len(fills) != 0 || ways != 0 || text != "" || len(read) != 0 || mend != 0 || form != 0 || nearest != 0 {
			t.Errorf("%d: %v, %v, %v, %d, %q, %v, %d, %d, %d", i, made, of, fills, ways, text, read, mend, form, nearest)
		}
	}
	for _, fills := range []string{"judge", "judge|mercy|a", "|mercy", "judge|", "judge|A", "judge|a b c d"} {
		if made, e := letter.Make(example(), 0, fillsOf(fills)); len(made) != 0 || e == api.OK {
			t.Errorf("Make with %s = %v, %d", fills, made, e)
		}
	}
	if fills, ways, e := letter.Fills(example(), 1, a); len(fills) != 0 || ways != 0 || e != api.ErrDown {
		t.Errorf("Fills = %v, %d, %d", fills, ways, e)
	}
}

// P2.2
func TestMake(t *testing.T) {
	s := example()
	s.Forms = append(s.Forms, formOf("fixed", fixed("a b"), fixed("c")))
	for _, c := range []struct {
		form        int
		fills, want string
	}{
		{0, "judge|mercy", "to the judge i ask mercy"}, {0, "old judge|for some mercy", "to the old judge i ask for some mercy"},
		{1, "a|", "a i ask"}, {1, "a b|c d", "a b i ask c d"}, {2, "x y|z", "x y z"}, {2, "harbours|a", "harbours a"},
	} {
		if l := must[[]string](t)(letter.Make(s, c.form, fillsOf(c.fills))); spoken(l) != c.want {
			t.Errorf("Make of %d with %s = %q", c.form, c.fills, l)
		}
	}
	if l := must[[]string](t)(letter.Make(s, 3, nil)); spoken(l) != "a b c" {
		t.Errorf("Make = %q", l)
	}
	if l, e := letter.Make(s, 3, [][]string{nil}); len(l) != 0 || e != api.ErrLong {
		t.Errorf("Make = %q, %d", l, e)
	}
	s = shelfOf(8, formOf("none"), formOf("open", room(0, 1), room(0, 3)), formOf("full", slices.Repeat([]api.LePart{room(3, 3)}, 5)...))
	if l := must[[]string](t)(letter.Make(s, 0, [][]string{})); len(l) != 0 {
		t.Errorf("Make = %q", l)
	}
	if l := must[[]string](t)(letter.Make(s, 1, [][]string{nil, {}})); len(l) != 0 {
		t.Errorf("Make = %q", l)
	}
	if l := must[[]string](t)(letter.Make(s, 2, slices.Repeat([][]string{words("a b c")}, 5))); spoken(l) != spoken(many("a b c", 5)) {
		t.Errorf("Make = %q", l)
	}
}

// P2.3
func TestOfFills(t *testing.T) {
	s := shelfOf(8, formOf("none"), formOf("rooms", room(0, 2), room(1, 3), room(0, 1)), formOf("apart", room(0, 3), fixed("a"), room(0, 3)), formOf("fixed", fixed("a b"), fixed("a")))
	for _, c := range []struct {
		words string
		of    []int
		fills [4]string
		ways  [4]int
	}{
		{"", []int{0}, [4]string{}, [4]int{1, 0, 0, 0}},
		{"b", []int{1}, [4]string{1: "|b|"}, [4]int{1: 1}},
		{"a", []int{1, 2}, [4]string{1: "|a|", 2: "|"}, [4]int{0, 1, 1, 0}},
		{"x y", []int{1}, [4]string{1: "|x|y"}, [4]int{1: 3}},
		{"x y z", []int{1}, [4]string{1: "|x y|z"}, [4]int{1: 5}},
		{"w x y z", []int{1}, [4]string{1: "|w x y|z"}, [4]int{1: 5}},
		{"v w x y z", []int{1}, [4]string{1: "v|w x y|z"}, [4]int{1: 3}},
		{"u v w x y z", []int{1}, [4]string{1: "u v|w x y|z"}, [4]int{1: 1}},
		{"t u v w x y z", nil, [4]string{}, [4]int{}},
		{"a b a", []int{1, 2, 3}, [4]string{1: "|a b|a", 2: "|b a", 3: ""}, [4]int{0, 5, 2, 1}},
		{"a a a a a", []int{1, 2}, [4]string{1: "a|a a a|a", 2: "a|a a a"}, [4]int{0, 3, 3, 0}},
		{"b b b b a", []int{1}, [4]string{1: "b|b b b|a"}, [4]int{1: 3}},
		{"b b b a b b b", []int{2}, [4]string{2: "b b b|b b b"}, [4]int{2: 1}},
		{"a b b", []int{1, 2}, [4]string{1: "|a b|b", 2: "|b b"}, [4]int{0, 5, 1, 0}},
	} {
		l := words(c.words)
		if of := must[[]int](t)(letter.Of(s, l)); !slices.Equal(of, c.of) {
			t.Errorf("Of %q = %v", c.words, of)
		}
		for form := range s.Forms {
			want := api.OK
			if c.ways[form] == 0 {
				want = api.ErrDown
			}
			if fills, ways, e := letter.Fills(s, form, l); toldFills(fills) != c.fills[form] || ways != c.ways[form] || e != want {
				t.Errorf("Fills of %d, %q = %q, %d, %d", form, c.words, fills, ways, e)
			}
		}
	}
	most := shelfOf(8, formOf("most", slices.Repeat([]api.LePart{room(0, 3)}, 5)...))
	if fills, ways, e := letter.Fills(most, 0, words("a b c d e f g h")); toldFills(fills) != "||a b|c d e|f g h" || ways != 155 || e != api.OK {
		t.Errorf("Fills = %q, %d, %d", fills, ways, e)
	}
	if fills, ways, e := letter.Fills(shelfOf(8, formOf("none")), 0, nil); len(fills) != 0 || ways != 1 || e != api.OK {
		t.Errorf("Fills = %q, %d, %d", fills, ways, e)
	}
}

// P2.4
func TestWriteRead(t *testing.T) {
	for _, c := range []struct {
		width       int
		words, text string
	}{
		{8, "", ""}, {8, "a", "a\n"}, {8, "harbours", "harbours\n"}, {8, "harbours a", "harbours\na\n"}, {8, "a harbours", "a\nharbours\n"},
		{8, "abc defg", "abc defg\n"}, {8, "abc defgh", "abc\ndefgh\n"}, {9, "abc defgh", "abc defgh\n"}, {8, "a b c d e", "a b c d\ne\n"}, {8, "ab cd ef gh", "ab cd ef\ngh\n"},
		{12, "to the judge i ask mercy", "to the judge\ni ask mercy\n"}, {11, "to the judge i ask mercy", "to the\njudge i ask\nmercy\n"}, {30, "to the judge i ask mercy", "to the judge i ask mercy\n"},
		{30, "harbours harbours harbours abc", "harbours harbours harbours abc\n"}, {30, "harbours harbours harbours abcd", "harbours harbours harbours\nabcd\n"},
		{8, spoken(many("harbours", 15)), strings.Repeat("harbours\n", 15)}, {30, spoken(many("a", 15)), spoken(many("a", 15)) + "\n"}, {17, spoken(many("harbours", 3)), "harbours harbours\nharbours\n"}, {16, spoken(many("harbours", 2)), "harbours\nharbours\n"},
	} {
		s := shelfOf(c.width)
		if text := must[string](t)(letter.Write(s, words(c.words))); text != c.text {
			t.Errorf("%d: Write of %q = %q", c.width, c.words, text)
		}
		if l := must[[]string](t)(letter.Read(s, c.text)); spoken(l) != c.words || len(l) != len(words(c.words)) {
			t.Errorf("%d: Read of %q = %q", c.width, c.text, l)
		}
	}
}

// P2.4: what is no letter's text
func TestReadErrors(t *testing.T) {
	s := shelfOf(8)
	for _, text := range []string{
		"a", "\n", " ", " a\n", "a \n", "a  b\n", "a\n\n", "\na\n", "a\nb\n", "a\n b\n", "abcd efgh\n", "abc defg", "a b c d e\n", "harbourss\n", "harbours a\n",
		"A\n", "a1\n", "a.\n", "a\tb\n", "a\r\n", "a\x00\n", "a\xff\n", "é\n", "a\u00a0b\n", "a\u2028b\n", "a\vb\n", "`\n", "{\n", "a b c d\ne f g h\na b c d\ne f g h\n",
		strings.Repeat("harbours\n", 16), strings.Repeat("a", 160), strings.Repeat(" ", 160), strings.Repeat("\n", 160), strings.Repeat("\xff", 160),
	} {
		if l, e := letter.Read(s, text); len(l) != 0 || e != api.ErrForm {
			t.Errorf("Read of %q = %q, %d", text, l, e)
		}
	}
	for _, text := range []string{strings.Repeat("a", 161), strings.Repeat("\n", 161), strings.Repeat("harbours\n", 18), strings.Repeat("a\n", 1<<20)} {
		if l, e := letter.Read(s, text); len(l) != 0 || e != api.ErrLong {
			t.Errorf("Read of %d bytes = %q, %d", len(text), l, e)
		}
	}
	if l, e := letter.Read(shelfOf(9), "abc\ndefgh\n"); len(l) != 0 || e != api.ErrForm {
		t.Errorf("Read = %q, %d", l, e)
	}
}

// P2.5
func TestFewest(t *testing.T) {
	for _, c := range []struct{ from, to, want string }{
		{"", "", ""}, {"a", "a", "."}, {"a", "b", "=b"}, {"a", "", "-"}, {"", "a", "+a"},
		{"a b", "b", "- ."}, {"a b", "a", ". -"}, {"a a", "a", ". -"}, {"a", "a a", ". +a"}, {"a", "b a", "+b ."}, {"a", "b c", "=b +c"}, {"a b", "c", "=c -"},
		{"a b", "b a", "=b =a"}, {"a b c", "b c a", "- . . +a"}, {"c a b", "a b c", "- . . +c"}, {"a b c d", "b a d c", "- . =a . +c"}, {"a b c d e", "b c x e a", "- . . =x . +a"},
		{"a x a b", "a b", ". - - ."}, {"x a x b", "a b", "- . - ."}, {"a b", "x a y b z", "+x . +y . +z"}, {"a b a b", "b a b a", "- . . . +a"}, {"a b c", "c b a", "=c . =a"},
		{"a b", "c a", "=c =a"}, {"a b c", "x y", "=x =y -"}, {"x y", "a b c", "=a =b +c"},
		{spoken(many("a", 15)), "", strings.Repeat(" -", 15)}, {"", spoken(many("a", 15)), strings.Repeat(" +a", 15)}, {spoken(many("a", 15)), spoken(many("b", 15)), strings.Repeat(" =b", 15)},
		{spoken(many("a", 15)), spoken(many("a", 15)), strings.Repeat(" .", 15)}, {"harbours", "harbour", "=harbour"},
	} {
		want := marksOf(c.want)
		marks, n, e := letter.Fewest(words(c.from), words(c.to))
		if !slices.Equal(marks, want) || n != corrections(want) || e != api.OK {
			t.Errorf("Fewest from %q to %q = %q, %d, %d", c.from, c.to, toldMarks(marks), n, e)
		}
	}
}

// P2.5: the error of a letter, first from, then to
func TestFewestErrors(t *testing.T) {
	good, long, bad := words("a b"), many("a", 16), words("a B")
	longBad := many("B", 16)
	for i, c := range []struct {
		from, to []string
		e        api.Errno
	}{
		{good, long, api.ErrLong}, {good, bad, api.ErrForm}, {good, longBad, api.ErrLong}, {long, good, api.ErrLong}, {bad, good, api.ErrForm}, {longBad, good, api.ErrLong},
		{long, bad, api.ErrLong}, {bad, long, api.ErrForm}, {bad, bad, api.ErrForm}, {many("", 1), good, api.ErrForm}, {nil, many("harbourss", 1), api.ErrForm}, {many("a", 1<<20), nil, api.ErrLong}, {good, many("a", 15), api.OK},
	} {
		marks, n, e := letter.Fewest(c.from, c.to)
		if e != c.e || e != api.OK && (len(marks) != 0 || n != 0) {
			t.Errorf("%d: Fewest = %v, %d, %d", i, marks, n, e)
		}
	}
}

// P2.6
func TestApply(t *testing.T) {
	for _, c := range []struct{ words, marks, want string }{
		{"", "", ""}, {"a", ".", "a"}, {"a", "-", ""}, {"a", "=b", "b"}, {"", "+a", "a"}, {"a b", ". .", "a b"}, {"a b", "+x . +y . +z", "x a y b z"}, {"a b", "+x +y - =a +z", "x y a z"},
		{"a b c", "- - -", ""}, {"a", ". +a", "a a"}, {"a a", "=b =c", "b c"}, {"a", "+a .", "a a"}, {"harbours", "=harbour", "harbour"}, {"a", "- +harbours", "harbours"},
		{spoken(many("a", 15)), strings.Repeat("- +b ", 15), spoken(many("b", 15))}, {spoken(many("a", 15)), strings.Repeat("+b ", 15) + strings.Repeat("- ", 15), spoken(many("b", 15))}, {spoken(many("a", 14)), strings.Repeat(". ", 14) + "+b", spoken(many("a", 14)) + " b"},
	} {
		if l := must[[]string](t)(letter.Apply(words(c.words), marksOf(c.marks))); spoken(l) != c.want {
			t.Errorf("Apply of %q to %q = %q", c.marks, c.words, l)
		}
	}
}

// P2.6, P1: each error, and which one is returned if several apply
func TestApplyErrors(t *testing.T) {
	mark := func(kind int, word string) api.LeMark { return api.LeMark{Kind: kind, Word: word} }
	stay := mark(api.LeKeep, "")
	const arg, long, none, twice, form, rang = api.ErrArg, api.ErrLong, api.ErrNone, api.ErrTwice, api.ErrForm, api.ErrRange
	for i, c := range []struct {
		words []string
		marks []api.LeMark
		e     api.Errno
	}{
		{many("A", 16), slices.Repeat([]api.LeMark{mark(9, "")}, 31), long},
		{many("A", 15), slices.Repeat([]api.LeMark{mark(9, "")}, 31), form},
		{words("a"), slices.Repeat([]api.LeMark{mark(9, "")}, 31), long},
		{words("a"), slices.Repeat([]api.LeMark{mark(9, "A")}, 30), rang},
		{words("a"), []api.LeMark{mark(4, "A"), mark(1, "A")}, rang},
		{words("a"), []api.LeMark{mark(-1, "")}, rang},
		{words("a"), []api.LeMark{mark(math.MaxInt, "a")}, rang},
		{words("a"), []api.LeMark{mark(math.MinInt, "a")}, rang},
		{words("a"), []api.LeMark{mark(api.LeTurn, "")}, form},
		{words("a"), []api.LeMark{mark(api.LeTurn, "B")}, form},
		{words("a"), []api.LeMark{mark(api.LePut, ""), stay}, form},
		{words("a"), []api.LeMark{mark(api.LePut, "harbourss"), stay}, form},
		{words("a"), []api.LeMark{mark(api.LeKeep, "a")}, form},
		{words("a"), []api.LeMark{mark(api.LeDrop, "a")}, form},
		{nil, []api.LeMark{mark(api.LeKeep, "a")}, form},
		{nil, []api.LeMark{mark(api.LeTurn, "")}, form},
		{nil, []api.LeMark{mark(api.LeDrop, "A")}, form},
		{nil, []api.LeMark{stay}, none},
		{nil, []api.LeMark{mark(api.LeTurn, "a")}, none},
		{nil, []api.LeMark{mark(api.LeDrop, "")}, none},
		{words("a"), []api.LeMark{stay, stay}, none},
		{words("a"), []api.LeMark{stay, mark(api.LeTurn, "a"), mark(9, "")}, none},
		{words("a"), []api.LeMark{mark(api.LePut, "b"), mark(api.LeDrop, ""), mark(api.LeDrop, "")}, none},
		{words("a"), []api.LeMark{mark(api.LeTurn, "a")}, twice},
		{words("a b"), []api.LeMark{stay, mark(api.LeTurn, "b"), mark(9, "")}, twice},
		{words("a b"), []api.LeMark{mark(api.LePut, "b"), mark(api.LeTurn, "a")}, twice},
		{words("a"), nil, arg},
		{words("a b"), []api.LeMark{stay}, arg},
		{words("a b"), []api.LeMark{mark(api.LePut, "c"), mark(api.LeDrop, "")}, arg},
		{words("a b"), []api.LeMark{stay, mark(9, "")}, rang},
		{words("a"), slices.Repeat([]api.LeMark{mark(api.LePut, "b")}, 30), arg},
		{nil, slices.Repeat([]api.LeMark{mark(api.LePut, "b")}, 16), long},
		{nil, slices.Repeat([]api.LeMark{mark(api.LePut, "b")}, 15), api.OK},
		{nil, slices.Repeat([]api.LeMark{mark(api.LePut, "b")}, 31), long},
		{many("a", 15), append(slices.Repeat([]api.LeMark{stay}, 15), mark(api.LePut, "b")), long},
		{many("a", 15), append(slices.Repeat([]api.LeMark{stay}, 14), mark(api.LePut, "b")), arg},
		{many("a", 15), append(slices.Repeat([]api.LeMark{stay}, 15), mark(api.LePut, "b"), stay), none},
		{many("a", 15), append([]api.LeMark{mark(api.LePut, "b"), mark(api.LeDrop, "")}, slices.Repeat([]api.LeMark{stay}, 14)...), api.OK},
		{words("A"), nil, form},
		{[]string{""}, []api.LeMark{stay}, form},
		{many("a", 16), nil, long},
		{many("a", 1<<20), make([]api.LeMark, 1<<20), long},
		{nil, make([]api.LeMark, 1<<20), long},
	} {
		if l, e := letter.Apply(c.words, c.marks); e != c.e || e != api.OK && len(l) != 0 {
			t.Errorf("%d: Apply = %v, %d", i, l, e)
		}
	}
}

// P2.7
func TestMendNearest(t *testing.T) {
	s := shelfOf(8, formOf("none"), formOf("rooms", room(1, 2), room(0, 1)), formOf("fixed", fixed("a b"), fixed("c")), formOf("mixed", fixed("a"), room(1, 2), fixed("b")))
	for _, c := range []struct {
		words         string
		mend          [4]int
		nearest, many int
	}{
		{"", [4]int{0, 1, 3, 3}, 0, 0}, {"x", [4]int{1, 0, 3, 2}, 1, 0}, {"a", [4]int{1, 0, 2, 2}, 1, 0}, {"x y z", [4]int{3, 0, 3, 2}, 1, 0}, {"w x y z", [4]int{4, 1, 4, 2}, 1, 1},
		{"a b c", [4]int{3, 0, 0, 1}, 1, 0}, {"a x y b", [4]int{4, 1, 3, 0}, 3, 0}, {"a x y z b", [4]int{5, 2, 4, 1}, 3, 1}, {"x y z a b", [4]int{5, 2, 4, 2}, 1, 2}, {"x a b", [4]int{3, 0, 2, 1}, 1, 0},
		{"b a", [4]int{2, 0, 2, 2}, 1, 0}, {"a a b b", [4]int{4, 1, 2, 0}, 3, 0}, {spoken(many("a", 15)), [4]int{15, 12, 14, 12}, 1, 12}, {"x a y b z c x a y", [4]int{9, 6, 6, 6}, 1, 6},
	} {
		l := words(c.words)
		for form, want := range c.mend {
			if n := must[int](t)(letter.Mend(s, form, l)); n != want {
				t.Errorf("Mend of %d, %q = %d", form, c.words, n)
			}
		}
		if form, n, e := letter.Nearest(s, l); form != c.nearest || n != c.many || e != api.OK {
			t.Errorf("Nearest of %q = %d, %d, %d", c.words, form, n, e)
		}
	}
	full := shelfOf(8, formOf("full", slices.Repeat([]api.LePart{fixed("a b c")}, 5)...))
	if form, n, e := letter.Nearest(full, many("d", 15)); form != 0 || n != 15 || e != api.OK {
		t.Errorf("Nearest = %d, %d, %d", form, n, e)
	}
}

// the chapter's examples
func TestExamples(t *testing.T) {
	s := example()
	a := words("to the judge i ask mercy")
	if l := must[[]string](t)(letter.Make(s, 0, fillsOf("judge|mercy"))); !slices.Equal(l, a) {
		t.Errorf("Make = %q", l)
	}
	for l, want := range map[string]int{spoken(a): 0, "a b c": 2, "to the i ask i ask": 1} {
		if of := must[[]int](t)(letter.Of(s, words(l))); !slices.Equal(of, []int{want}) {
			t.Errorf("Of %q = %v", l, of)
		}
	}
	if fills, ways, e := letter.Fills(s, 0, a); toldFills(fills) != "judge|mercy" || ways != 1 || e != api.OK {
		t.Errorf("Fills = %q, %d, %d", fills, ways, e)
	}
	if fills, ways, e := letter.Fills(s, 2, words("a b c")); toldFills(fills) != "a|b c" || ways != 2 || e != api.OK {
		t.Errorf("Fills = %q, %d, %d", fills, ways, e)
	}
	if text := must[string](t)(letter.Write(s, a)); text != "to the judge\ni ask mercy\n" {
		t.Errorf("Write = %q", text)
	}
	to := words("to judge i ask for mercy")
	marks, n, e := letter.Fewest(a, to)
	if toldMarks(marks) != ". - . . . +for ." || n != 2 || e != api.OK {
		t.Errorf("Fewest = %q, %d, %d", toldMarks(marks), n, e)
	}
	if l := must[[]string](t)(letter.Apply(a, marks)); !slices.Equal(l, to) {
		t.Errorf("Apply = %q", l)
	}
	for form, want := range []int{0, 1, 2} {
		if n := must[int](t)(letter.Mend(s, form, a)); n != want {
			t.Errorf("Mend of %d = %d", form, n)
		}
	}
	if form, n, e := letter.Nearest(s, a); form != 0 || n != 0 || e != api.OK {
		t.Errorf("Nearest = %d, %d, %d", form, n, e)
	}
}
