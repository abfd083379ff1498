package letter_test

import (
	"math"
	"math/rand/v2"
	"slices"
	"strings"
	"testing"

	"escribano/api"
	"escribano/letter"
)

// P2.3, P2.8: what the tests hold a letter for
func TestKnownFills(t *testing.T) {
	ofSome, ofMore := 0, 0
	eachShelf(t, func(t *testing.T, d *rand.Rand, s api.LeShelf, l []string) {
		var want []int
		for form, f := range s.Forms {
			all := knownFills(f.Parts, l)
			fills, ways, e := letter.Fills(s, form, l)
			if ways != len(all) {
				t.Errorf("Fills of %d: %d ways, not %d", form, ways, len(all))
			}
			if ways == 0 {
				if len(fills) != 0 || e != api.ErrDown {
					t.Errorf("Fills of %d = %q, %d", form, fills, e)
				}
				continue
			}
			want = append(want, form)
			if !sameFills(fills, all[0]) || e != api.OK {
				t.Errorf("Fills of %d = %q, %d, not %q", form, fills, e, all[0])
			}
			if ways > 1 {
				ofMore++
			}
		}
		if len(want) > 0 {
			ofSome++
		}
		if of := must[[]int](t)(letter.Of(s, l)); !slices.Equal(of, want) {
			t.Errorf("Of = %v, not %v", of, want)
		}
	})
	if ofSome < 150 || ofMore < 30 {
		t.Errorf("only %d letters are of a form, %d in several ways", ofSome, ofMore)
	}
}

// P2.2, P2.8
func TestMade(t *testing.T) {
	later := 0
	eachShelf(t, func(t *testing.T, d *rand.Rand, s api.LeShelf, _ []string) {
		for form, f := range s.Forms {
			given := anyFills(d, f.Parts)
			l := must[[]string](t)(letter.Make(s, form, given))
			if of := must[[]int](t)(letter.Of(s, l)); !slices.Contains(of, form) {
				t.Errorf("Of %q = %v", l, of)
			}
			all := knownFills(f.Parts, l)
			if !slices.ContainsFunc(all, func(fills [][]string) bool { return sameFills(fills, given) }) {
				t.Errorf("Make of %d with %q = %q", form, given, l)
			}
			fills, ways, e := letter.Fills(s, form, l)
			if ways != len(all) || e != api.OK {
				t.Errorf("Fills of %d, %q: %d ways, %d", form, l, ways, e)
			}
			if slices.CompareFunc(longs(fills), longs(given), func(a, b int) int { return a - b }) > 0 {
				t.Errorf("Fills of %d, %q = %q, %q come before them", form, l, fills, given)
			}
			if !sameFills(fills, given) {
				later++
			}
			if again := must[[]string](t)(letter.Make(s, form, fills)); !slices.Equal(again, l) {
				t.Errorf("Make of %d with %q = %q, not %q", form, fills, again, l)
			}
		}
	})
	if later < 50 {
		t.Errorf("only %d fills were not the first ones", later)
	}
}

// longs are how many words lists have.
func longs(fills [][]string) []int {
	var l []int
	for _, list := range fills {
		l = append(l, len(list))
	}
	return l
}

// P2.4, P2.9, P10
func TestAgain(t *testing.T) {
	eachShelf(t, func(t *testing.T, d *rand.Rand, s api.LeShelf, l []string) {
		text := must[string](t)(letter.Write(s, l))
		if again := must[[]string](t)(letter.Read(s, text)); !slices.Equal(again, l) {
			t.Errorf("Read of %q = %q", text, again)
		}
		if spoken(strings.FieldsFunc(text, func(c rune) bool { return c == ' ' || c == '\n' })) != spoken(l) {
			t.Errorf("Write = %q", text)
		}
		lines := strings.SplitAfter(text, "\n")
		if end := len(lines) - 1; lines[end] != "" {
			t.Errorf("Write = %q", text)
		} else {
			lines = lines[:end]
		}
		for i, line := range lines {
			if spoken(words(line))+"\n" != line || len(line)-1 > s.Width {
				t.Errorf("%q is a line", line)
			}
			if i > 0 && len(lines[i-1])+len(words(line)[0]) <= s.Width {
				t.Errorf("the first word of %q would have gone on the line %q", line, lines[i-1])
			}
		}
	})
}

// P2.4, P2.9: a text that is read is written the same
func TestReadIsWritten(t *testing.T) {
	read, refused := 0, 0
	eachShelf(t, func(t *testing.T, d *rand.Rand, s api.LeShelf, l []string) {
		text := []byte(must[string](t)(letter.Write(s, l)))
		for range 1 + d.IntN(2) {
			at, c := d.IntN(len(text)+1), "a \nz{`\x00"[d.IntN(7)]
			switch {
			case at < len(text) && d.IntN(2) == 0:
				text[at] = c
			case at < len(text) && d.IntN(2) == 0:
				text = slices.Delete(text, at, at+1)
			default:
				text = slices.Insert(text, at, c)
			}
		}
		again, e := letter.Read(s, string(text))
		if e != api.OK {
			refused++
			fields := strings.FieldsFunc(string(text), func(c rune) bool { return c == ' ' || c == '\n' })
			if written, f := letter.Write(s, fields); e != api.ErrForm || f == api.OK && written == string(text) {
				t.Errorf("Read of %q: error %d", text, e)
			}
			return
		}
		read++
		if written := must[string](t)(letter.Write(s, again)); written != string(text) {
			t.Errorf("Read of %q = %q, is written %q", text, again, written)
		}
	})
	if read < 50 || refused < 50 {
		t.Errorf("%d were read, %d refused", read, refused)
	}
}

// P2.5, P2.10: all marks of short letters
func TestKnownMarks(t *testing.T) {
	var letters [][]string
	for _, known := range []string{"a b", "a b c"} {
		letters = append(letters, lettersUpTo(6-len(known)/2, words(known))...)
	}
	for seed := range uint64(1500) {
		d := dice(seed)
		from, to := letters[d.IntN(len(letters))], letters[d.IntN(len(letters))]
		fewest, kinds := math.MaxInt, ""
		for _, marks := range knownMarks(from, to) {
			if n := len(marks) - strings.Count(marks, "0"); n < fewest {
				fewest, kinds = n, marks
			}
		}
		marks, n, e := letter.Fewest(from, to)
		if n != fewest || kindsOf(marks) != kinds || e != api.OK {
			t.Errorf("Fewest from %q to %q = %q, %d, %d, not %s, %d", from, to, toldMarks(marks), n, e, kinds, fewest)
		}
		if l := must[[]string](t)(letter.Apply(from, marks)); !slices.Equal(l, to) {
			t.Errorf("Apply of %q to %q = %q, not %q", toldMarks(marks), from, l, to)
		}
	}
}

// anyMarks returns marks that can be made on a letter.
func anyMarks(d *rand.Rand, l []string) []api.LeMark {
	var marks []api.LeMark
	puts := api.MaxLeWords - len(l)
	put := func() {
		for puts > 0 && d.IntN(5) == 0 {
			puts--
			marks = append(marks, api.LeMark{Kind: api.LePut, Word: anyWord(d)})
		}
	}
	for _, word := range l {
		put()
		m := api.LeMark{Kind: []int{api.LeKeep, api.LeKeep, api.LeKeep, api.LeTurn, api.LeDrop}[d.IntN(5)]}
		if m.Kind == api.LeTurn {
			if m.Word = anyWord(d); m.Word == word {
				m.Word = "other"
			}
		}
		marks = append(marks, m)
	}
	put()
	return marks
}

// P2.6, P2.10
func TestFewestCorrections(t *testing.T) {
	eachShelf(t, func(t *testing.T, d *rand.Rand, s api.LeShelf, l []string) {
		any := anyMarks(d, l)
		to := must[[]string](t)(letter.Apply(l, any))
		marks, n, e := letter.Fewest(l, to)
		if e != api.OK || n != corrections(marks) || n > corrections(any) {
			t.Errorf("Fewest to %q = %q, %d, %d, with %q too", to, toldMarks(marks), n, e, toldMarks(any))
		}
		if n == corrections(any) && kindsOf(any) < kindsOf(marks) {
			t.Errorf("Fewest to %q = %q, %q are before", to, toldMarks(marks), toldMarks(any))
		}
		if again := must[[]string](t)(letter.Apply(l, marks)); !slices.Equal(again, to) {
			t.Errorf("Apply of %q = %q, not %q", toldMarks(marks), again, to)
		}
		for _, m := range marks {
			if (m.Kind == api.LeKeep || m.Kind == api.LeDrop) != (m.Word == "") {
				t.Errorf("Fewest to %q has the mark %v", to, m)
			}
		}
		for range 20 {
			other := changedMarks(d, marks)
			if again, e := letter.Apply(l, other); e == api.OK && slices.Equal(again, to) && corrections(other) < n {
				t.Errorf("Fewest to %q: %d, not %q", to, n, toldMarks(other))
			}
		}
	})
}

// changedMarks returns marks with something else done at one place.
func changedMarks(d *rand.Rand, marks []api.LeMark) []api.LeMark {
	marks = slices.Clone(marks)
	if len(marks) == 0 {
		return marks
	}
	at := d.IntN(len(marks))
	switch d.IntN(3) {
	case 0:
		marks[at] = api.LeMark{}
	case 1:
		return slices.Delete(marks, at, at+1)
	case 2:
		other := d.IntN(len(marks))
		marks[at], marks[other] = marks[other], marks[at]
	}
	return marks
}

// P2.11
func TestThereAndBack(t *testing.T) {
	eachShelf(t, func(t *testing.T, d *rand.Rand, s api.LeShelf, one []string) {
		other, third := anyLetter(d, s), anyLetter(d, s)
		if d.IntN(2) == 0 {
			other = corrected(d, one)
		}
		there, back := distance(t, one, other), distance(t, other, one)
		if there != back {
			t.Errorf("to %q: %d there, %d back", other, there, back)
		}
		if way := distance(t, one, third) + distance(t, third, other); way < there {
			t.Errorf("to %q: %d, by way of %q %d", other, there, third, way)
		}
		if (there == 0) != slices.Equal(one, other) || distance(t, one, one) != 0 {
			t.Errorf("to %q: %d", other, there)
		}
	})
}

// P2.7, P2.12: all letters of small forms
func TestKnownMend(t *testing.T) {
	for seed := range uint64(200) {
		d := dice(seed)
		var parts []api.LePart
		for range d.IntN(4) {
			if d.IntN(2) == 0 {
				parts = append(parts, fixed([]string{"a", "b", "a b", "b a"}[d.IntN(4)]))
				continue
			}
			hi := 1 + d.IntN(2)
			parts = append(parts, room(d.IntN(hi+1), hi))
		}
		s := shelfOf(8, formOf("small", parts...))
		l := slices.Repeat([]string{"a", "b", "c"}[:1+d.IntN(3)], 2)[:d.IntN(3)]
		for range d.IntN(3) {
			l = append(l, []string{"a", "b"}[d.IntN(2)])
		}
		want := math.MaxInt
		for _, to := range lettersOf(parts, words("a b c d")) {
			for _, marks := range knownMarks(l, to) {
				want = min(want, len(marks)-strings.Count(marks, "0"))
			}
		}
		if n := must[int](t)(letter.Mend(s, 0, l)); n != want {
			t.Errorf("Mend of %v, %q = %d, not %d", parts, l, n, want)
		}
	}
}

// P2.12
func TestMended(t *testing.T) {
	eachShelf(t, func(t *testing.T, d *rand.Rand, s api.LeShelf, l []string) {
		of := must[[]int](t)(letter.Of(s, l))
		other := corrected(d, l)
		for form, f := range s.Forms {
			n := must[int](t)(letter.Mend(s, form, l))
			if (n == 0) != slices.Contains(of, form) {
				t.Errorf("Mend of %d = %d, the letter is of %v", form, n, of)
			}
			for range 3 {
				to := must[[]string](t)(letter.Make(s, form, anyFills(d, f.Parts)))
				if far := distance(t, l, to); far < n {
					t.Errorf("Mend of %d = %d, but %q is nearer: %d", form, n, to, far)
				}
			}
			if x := must[int](t)(letter.Mend(s, form, other)); x < n-1 || x > n+1 {
				t.Errorf("Mend of %d = %d, of %q %d", form, n, other, x)
			}
		}
	})
}

// P2.12: some letter of the form is as near as Mend says
func TestMendIsReached(t *testing.T) {
	eachShelf(t, func(t *testing.T, d *rand.Rand, s api.LeShelf, l []string) {
		if d.IntN(5) > 0 || len(s.Forms) == 0 {
			return
		}
		form := d.IntN(len(s.Forms))
		n := must[int](t)(letter.Mend(s, form, l))
		for range n {
			l = nearer(t, s, form, l)
		}
		if len(knownFills(s.Forms[form].Parts, l)) == 0 {
			t.Errorf("Mend of %d = %d, then the letter is %q", form, n, l)
		}
	})
}

// nearer returns a letter that needs a correction less to be of a form.
func nearer(t *testing.T, s api.LeShelf, form int, l []string) []string {
	t.Helper()
	n := must[int](t)(letter.Mend(s, form, l))
	known := []string{"any"}
	for _, p := range s.Forms[form].Parts {
		known = append(known, p.Words...)
	}
	for at := range len(l) + 1 {
		var all [][]string
		if at < len(l) {
			all = append(all, slices.Delete(slices.Clone(l), at, at+1))
		}
		for _, word := range known {
			if at < len(l) {
				all = append(all, slices.Replace(slices.Clone(l), at, at+1, word))
			}
			if len(l) < api.MaxLeWords {
				all = append(all, slices.Insert(slices.Clone(l), at, word))
			}
		}
		for _, other := range all {
			if must[int](t)(letter.Mend(s, form, other)) == n-1 {
				return other
			}
		}
	}
	t.Fatalf("no correction of %q is nearer to %d than %d", l, form, n)
	return nil
}

// P2.7, P2.13
func TestNearestOfAll(t *testing.T) {
	eachShelf(t, func(t *testing.T, d *rand.Rand, s api.LeShelf, l []string) {
		form, n, e := letter.Nearest(s, l)
		if len(s.Forms) == 0 {
			if form != 0 || n != 0 || e != api.ErrDown {
				t.Errorf("Nearest = %d, %d, %d", form, n, e)
			}
			return
		}
		var mends, none []int
		for at := range s.Forms {
			mend := must[int](t)(letter.Mend(s, at, l))
			mends = append(mends, mend)
			if mend == 0 {
				none = append(none, at)
			}
		}
		if e != api.OK || n != slices.Min(mends) || form != slices.Index(mends, n) {
			t.Errorf("Nearest = %d, %d, %d of %v", form, n, e, mends)
		}
		if of := must[[]int](t)(letter.Of(s, l)); !slices.Equal(of, none) {
			t.Errorf("Of = %v, %v need none", of, none)
		}
	})
}

// P2.14
func TestMoreRoom(t *testing.T) {
	changed := 0
	eachShelf(t, func(t *testing.T, d *rand.Rand, s api.LeShelf, l []string) {
		more := cloned(s)
		for i := range more.Forms {
			for j, p := range more.Forms[i].Parts {
				if len(p.Words) > 0 || d.IntN(2) == 0 {
					continue
				}
				more.Forms[i].Parts[j].Room = api.Span{Lo: d.IntN(p.Room.Lo + 1), Hi: p.Room.Hi + d.IntN(api.MaxLeRoom-p.Room.Hi+1)}
			}
		}
		was, is := must[[]int](t)(letter.Of(s, l)), must[[]int](t)(letter.Of(more, l))
		for _, form := range was {
			if !slices.Contains(is, form) {
				t.Errorf("Of = %v, was %v", is, was)
			}
		}
		for form := range s.Forms {
			before, after := must[int](t)(letter.Mend(s, form, l)), must[int](t)(letter.Mend(more, form, l))
			if after > before {
				t.Errorf("Mend of %d = %d, was %d", form, after, before)
			}
			if after < before {
				changed++
			}
			_, x, _ := letter.Fills(s, form, l)
			if _, y, _ := letter.Fills(more, form, l); y < x {
				t.Errorf("Fills of %d: %d ways, were %d", form, y, x)
			}
		}
	})
	if changed < 30 {
		t.Errorf("only %d need fewer corrections", changed)
	}
}

// P2.15: arguments stay as they are, and a call says the same again
func TestNotModified(t *testing.T) {
	eachShelf(t, func(t *testing.T, d *rand.Rand, s api.LeShelf, l []string) {
		var fills [][]string
		if len(s.Forms) > 0 {
			fills = anyFills(d, s.Forms[0].Parts)
		}
		marks, to := anyMarks(d, l), anyLetter(d, s)
		shelfWas, was, toWas, marksWas := cloned(s), slices.Clone(l), slices.Clone(to), slices.Clone(marks)
		var fillsWas [][]string
		for _, list := range fills {
			fillsWas = append(fillsWas, slices.Clone(list))
		}
		text := must[string](t)(letter.Write(s, l))
		first := errors(s, 0, fills, l, text)
		made, _ := letter.Make(s, 0, fills)
		fewest, _, _ := letter.Fewest(l, to)
		applied, _ := letter.Apply(l, marks)
		if !sameShelf(s, shelfWas) || !slices.Equal(l, was) || !slices.Equal(to, toWas) || !slices.Equal(marks, marksWas) || !sameFills(fills, fillsWas) {
			t.Error("an argument was modified")
		}
		madeAgain, _ := letter.Make(s, 0, fills)
		fewestAgain, _, _ := letter.Fewest(l, to)
		appliedAgain, _ := letter.Apply(l, marks)
		if errors(s, 0, fills, l, text) != first || !slices.Equal(made, madeAgain) || !slices.Equal(fewest, fewestAgain) || !slices.Equal(applied, appliedAgain) {
			t.Error("the same call says something else")
		}
	})
}

// P2.15: results are new memory, and share none with each other
func TestNewMemory(t *testing.T) {
	s := shelfOf(8, formOf("rooms", room(0, 3), room(0, 3)), formOf("fixed", fixed("a b c")), formOf("room", room(0, 3)))
	l, put := words("a b c"), words("x y z")
	text := must[string](t)(letter.Write(s, l))
	results := func() [][]string {
		two, _, _ := letter.Fills(s, 0, l)
		one, _, _ := letter.Fills(s, 2, l)
		all := [][]string{
			must[[]string](t)(letter.Make(s, 1, nil)), must[[]string](t)(letter.Make(s, 2, [][]string{put})), must[[]string](t)(letter.Make(s, 0, [][]string{put, nil})),
			must[[]string](t)(letter.Apply(l, marksOf(". . ."))), must[[]string](t)(letter.Apply(l, marksOf("- . ."))), must[[]string](t)(letter.Read(s, text)),
		}
		return append(append(all, two...), one...)
	}
	once, twice := results(), results()
	for _, list := range once {
		for at := range list {
			list[at] = "changed"
		}
		list = append(list, "changed")
		for at := range cap(list) {
			list[:cap(list)][at] = "changed"
		}
	}
	for _, list := range append(results(), append(twice, l, put, s.Forms[1].Parts[0].Words)...) {
		if slices.Contains(list, "changed") {
			t.Errorf("memory is shared: %q", list)
		}
	}
	fills, _, _ := letter.Fills(s, 0, words("a b c d"))
	_ = append(fills[0], "changed")
	if toldFills(fills) != "a|b c d" {
		t.Errorf("lists of fills share memory: %q", fills)
	}
	of := must[[]int](t)(letter.Of(s, l))
	of[0] = 77
	if again := must[[]int](t)(letter.Of(s, l)); !slices.Equal(again, []int{0, 1, 2}) {
		t.Errorf("Of = %v", again)
	}
	marks, _, _ := letter.Fewest(l, put)
	marks[0].Word = "changed"
	if again, _, _ := letter.Fewest(l, put); toldMarks(again) != "=x =y =z" {
		t.Errorf("Fewest = %q", toldMarks(again))
	}
}

// wildInt returns a number, often one that is just at a limit or far beyond it.
func wildInt(d *rand.Rand) int {
	wild := []int{math.MinInt, -1 << 32, -2, -1, 0, 1, 2, 3, 4, 5, 7, 8, 9, 15, 16, 29, 30, 31, 1 << 32, math.MaxInt - 1, math.MaxInt}
	return wild[d.IntN(len(wild))]
}

// wildString returns a string that often is no word.
func wildString(d *rand.Rand) string {
	return []string{"a", "b", "harbours", "harbourss", "", "A", "a1", "a b", "\xff", "é", "a\n", strings.Repeat("z", 1<<12)}[d.IntN(12)]
}

// wildWords returns strings, seldom all of them words.
func wildWords(d *rand.Rand) []string {
	var l []string
	for range d.IntN(19) {
		if d.IntN(8) == 0 {
			l = append(l, wildString(d))
		} else {
			l = append(l, anyWord(d))
		}
	}
	return l
}

// wildShelf returns a shelf with things in it that are not valid.
func wildShelf(d *rand.Rand) api.LeShelf {
	s := anyShelf(d)
	for range d.IntN(3) {
		if len(s.Forms) == 0 {
			return s
		}
		f := &s.Forms[d.IntN(len(s.Forms))]
		switch d.IntN(6) {
		case 0:
			s.Width = wildInt(d)
		case 1:
			f.Name = []string{"", "a", "A", "plea", strings.Repeat("z", 40)}[d.IntN(5)]
		case 2:
			f.Parts = make([]api.LePart, d.IntN(9))
		case 3:
			f.Parts = append(f.Parts, api.LePart{Room: api.Span{Lo: wildInt(d), Hi: wildInt(d)}})
		case 4:
			f.Parts = append(f.Parts, api.LePart{Words: wildWords(d), Room: api.Span{Hi: d.IntN(2)}})
		case 5:
			s.Forms = append(s.Forms, make([]api.LeForm, d.IntN(3))...)
		}
	}
	return s
}

// wildMarks returns marks that mostly are not valid.
func wildMarks(d *rand.Rand) []api.LeMark {
	var marks []api.LeMark
	for range d.IntN(33) {
		m := api.LeMark{Kind: d.IntN(4)}
		if d.IntN(8) == 0 {
			m.Kind = wildInt(d)
		}
		if m.Kind == api.LeTurn || m.Kind == api.LePut || d.IntN(8) == 0 {
			m.Word = wildString(d)
		}
		marks = append(marks, m)
	}
	return marks
}

// P1, P2.15: any arguments are accepted, and all functions tell the same error of a shelf
func TestAnyArguments(t *testing.T) {
	wrong := 0
	for seed := range uint64(4000) {
		d := dice(seed)
		s := wildShelf(d)
		part, at, e := letter.Check(s)
		got := errors(s, wildInt(d), [][]string{wildWords(d), wildWords(d)}[:d.IntN(3)], wildWords(d), strings.Join(wildWords(d), " \n"[:1+d.IntN(2)]))
		letter.Fewest(wildWords(d), wildWords(d))
		letter.Apply(wildWords(d), wildMarks(d))
		if e == api.OK {
			if part != 0 || at != 0 {
				t.Errorf("%+v: Check = %d, %d", s, part, at)
			}
			continue
		}
		wrong++
		if want := [7]api.Errno{e, e, e, e, e, e, e}; part == 0 || got != want {
			t.Errorf("%+v: Check = %d, %d, %d, errors %v", s, part, at, e, got)
		}
	}
	if wrong < 1000 {
		t.Errorf("only %d shelves are not valid", wrong)
	}
	var none api.LeShelf
	if part, at, e := letter.Check(none); part != 1 || at != 0 || e != api.ErrRange {
		t.Errorf("Check = %d, %d, %d", part, at, e)
	}
	errors(none, 0, nil, nil, "")
	far := strings.Repeat("a", 1<<20)
	if got := errors(example(), 0, make([][]string, 1<<20), []string{far}, far); got != [7]api.Errno{api.ErrLong, api.ErrForm, api.ErrForm, api.ErrForm, api.ErrLong, api.ErrForm, api.ErrForm} {
		t.Errorf("errors %v", got)
	}
	if got := errors(example(), 0, [][]string{make([]string, 1<<20), {far}}, make([]string, 1<<20), ""); got != [7]api.Errno{api.ErrRange, api.ErrLong, api.ErrLong, api.ErrLong, api.OK, api.ErrLong, api.ErrLong} {
		t.Errorf("errors %v", got)
	}
}
