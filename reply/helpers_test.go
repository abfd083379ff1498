package reply_test

import (
	"math/rand/v2"
	"slices"
	"testing"

	"escribano/api"
	"escribano/reply"
)

// none is a ship that is not known, and stray the letter of an answer that belongs to none.
const (
	none  = api.ShNone
	stray = api.ReStray
)

// vessel is a ship; its calls are told by ports and days, in turn.
func vessel(name string, sails, lo, hi int, calls ...int) api.ShShip {
	s := api.ShShip{Name: name, Sails: sails, Late: api.Span{Lo: lo, Hi: hi}}
	for at := 0; at < len(calls); at += 2 {
		s.Calls = append(s.Calls, api.ShCall{Port: calls[at], After: calls[at+1]})
	}
	return s
}

// letter is a letter, and answer an answer.
func letter(port, day, ship int) api.ShLetter { return api.ShLetter{Port: port, Day: day, Ship: ship} }

func answer(port, words, day int) api.ReAnswer {
	return api.ReAnswer{Port: port, Words: words, Day: day}
}

// said is a report.
func said(kind, of, port, day int) api.ShReport {
	return api.ShReport{Kind: kind, Of: of, Port: port, Day: day}
}

// harbour is N of the examples of ship.
func harbour() api.ShHarbour {
	return api.ShHarbour{
		Ports:   2,
		Ships:   []api.ShShip{vessel("alba", 1, 0, 2, 0, 3, 1, 6), vessel("brisa", 3, 0, 1, 1, 3)},
		Letters: []api.ShLetter{letter(1, 0, none), letter(1, 2, none)},
		Reports: []api.ShReport{said(api.ShSeen, 0, 0, 5)},
	}
}

// example is B of the document's examples, less is D and early is E.
func example() api.ReBook {
	return api.ReBook{Harbour: harbour(), Words: []int{3, 6}, Back: 4, Answers: []api.ReAnswer{answer(1, 2, 11), answer(1, 2, 12), answer(1, 5, 20)}}
}

func less() api.ReBook { return without(example(), 1) }

func early() api.ReBook {
	b := example()
	b.Answers[0].Day = 9
	return b
}

// steady is a book with a letter to port 0 for each day, which surely comes on it; the way back takes a day.
func steady(days ...int) api.ReBook {
	b := api.ReBook{Harbour: api.ShHarbour{Ports: 2}, Back: 1}
	for at, day := range days {
		b.Harbour.Ships = append(b.Harbour.Ships, vessel(called(at), 0, 0, 0, 0, day))
		b.Harbour.Letters = append(b.Harbour.Letters, letter(0, 0, at))
	}
	return b
}

// called returns a name for each index.
func called(at int) string { return string(rune('a' + at)) }

// telling is a book with words of its letters, answered one with more answers, and without one without an answer.
func telling(b api.ReBook, words ...int) api.ReBook {
	b.Words = words
	return b
}

func answered(b api.ReBook, answers ...api.ReAnswer) api.ReBook {
	b.Answers = slices.Concat(b.Answers, answers)
	return b
}

func without(b api.ReBook, answer int) api.ReBook {
	b.Answers = slices.Delete(slices.Clone(b.Answers), answer, answer+1)
	return b
}

// heard is a book with more reports.
func heard(b api.ReBook, reports ...api.ShReport) api.ReBook {
	b.Harbour.Reports = slices.Concat(b.Harbour.Reports, reports)
	return b
}

// cloned is a book that shares no memory with b; sameBook reports whether two books are equal.
func cloned(b api.ReBook) api.ReBook {
	h := &b.Harbour
	h.Ships, h.Letters, h.Reports = slices.Clone(h.Ships), slices.Clone(h.Letters), slices.Clone(h.Reports)
	for i := range h.Ships {
		h.Ships[i].Calls = slices.Clone(h.Ships[i].Calls)
	}
	b.Words, b.Answers = slices.Clone(b.Words), slices.Clone(b.Answers)
	return b
}

func sameBook(a, b api.ReBook) bool {
	x, y := a.Harbour, b.Harbour
	return a.Back == b.Back && slices.Equal(a.Words, b.Words) && slices.Equal(a.Answers, b.Answers) &&
		x.Ports == y.Ports && x.Lost == y.Lost && slices.Equal(x.Letters, y.Letters) && slices.Equal(x.Reports, y.Reports) &&
		slices.EqualFunc(x.Ships, y.Ships, func(s, o api.ShShip) bool {
			return s.Name == o.Name && s.Sails == o.Sails && s.Late == o.Late && slices.Equal(s.Calls, o.Calls)
		})
}

// asked is what functions are asked for.
type asked struct{ answer, letter int }

// results are the results of all functions but Check.
type results struct {
	could, first          []int
	strays, belongs       int
	sureStrays, mayStrays []int
	mayWait, sureWait     []int
	days                  api.Span
	came                  int
	decides               []int
	errors                [7]api.Errno
}

// ask calls all functions but Check.
func ask(b api.ReBook, q asked) results {
	var r results
	r.could, r.errors[0] = reply.Could(b, q.answer)
	r.first, r.strays, r.errors[1] = reply.First(b)
	r.belongs, r.errors[2] = reply.Belongs(b, q.answer, q.letter)
	r.sureStrays, r.mayStrays, r.errors[3] = reply.Strays(b)
	r.mayWait, r.sureWait, r.errors[4] = reply.Waits(b)
	r.days, r.came, r.errors[5] = reply.Came(b, q.letter)
	r.decides, r.errors[6] = reply.Decides(b, q.answer)
	return r
}

// lists are the results that are lists, and sameResults reports whether all results are the same.
func (r results) lists() [][]int {
	return [][]int{r.could, r.first, r.sureStrays, r.mayStrays, r.mayWait, r.sureWait, r.decides}
}

func sameResults(a, b results) bool {
	return slices.EqualFunc(a.lists(), b.lists(), slices.Equal[[]int]) &&
		a.strays == b.strays && a.belongs == b.belongs && a.days == b.days && a.came == b.came && a.errors == b.errors
}

// must returns the result of a call, which must have no error; mustTwo that of a call with two results.
func must[T any](t *testing.T) func(result T, e api.Errno) T {
	return func(result T, e api.Errno) T {
		t.Helper()
		if e != api.OK {
			t.Fatalf("error %d", e)
		}
		return result
	}
}

func mustTwo[T, U any](t *testing.T) func(one T, two U, e api.Errno) (T, U) {
	return func(one T, two U, e api.Errno) (T, U) {
		t.Helper()
		if e != api.OK {
			t.Fatalf("error %d", e)
		}
		return one, two
	}
}

// straysOf returns how many answers are strays, as First tells.
func straysOf(t *testing.T, b api.ReBook) int {
	t.Helper()
	_, strays := mustTwo[[]int, int](t)(reply.First(b))
	return strays
}

// never is the day of what does not come.
const never = 1 << 20

// fate is what the tests hold for how a ship fares: on which day it calls at each port, or never, and whether it sinks.
type fate struct {
	calls []int
	sinks bool
}

// shore is what the tests hold for a truth of a harbour: how each ship fares, and on which day each letter comes, or never.
type shore struct {
	fates []fate
	comes []int
}

// fatesOf returns all ways in which a ship can fare.
func fatesOf(h api.ShHarbour, s api.ShShip) []fate {
	var all []fate
	for late := s.Late.Lo; late <= s.Late.Hi; late++ {
		for made := range len(s.Calls) + 1 {
			f := fate{slices.Repeat([]int{never}, h.Ports), made < len(s.Calls)}
			for _, c := range s.Calls[:made] {
				f.calls[c.Port] = s.Sails + c.After + late
			}
			all = append(all, f)
		}
	}
	return all
}

// oneOfEach returns all lists with one of each of some lists.
func oneOfEach[T any](lists [][]T) [][]T {
	all := [][]T{{}}
	for _, l := range lists {
		var longer [][]T
		for _, head := range all {
			for _, x := range l {
				longer = append(longer, append(slices.Clone(head), x))
			}
		}
		all = longer
	}
	return all
}

// isTold reports whether what a report tells is so if something was on a day.
func isTold(r api.ShReport, day int) bool {
	if r.Kind == api.ShSeen || r.Kind == api.ShCame {
		return day == r.Day
	}
	return day > r.Day
}

// daysOf returns the days on which a letter can come if ships fare so.
func daysOf(h api.ShHarbour, at int, fates []fate) []int {
	var days []int
	l := h.Letters[at]
ships:
	for ship, s := range h.Ships {
		isTaken := s.Sails >= l.Day && slices.ContainsFunc(s.Calls, func(c api.ShCall) bool { return c.Port == l.Port })
		day := fates[ship].calls[l.Port]
		if !isTaken || l.Ship != none && l.Ship != ship || slices.Contains(days, day) {
			continue
		}
		for _, r := range h.Reports {
			if r.Kind >= api.ShCame && r.Of == at && !isTold(r, day) {
				continue ships
			}
		}
		days = append(days, day)
	}
	return days
}

// knownShores returns the truths of a harbour, those that have the same days of ships and of letters once.
func knownShores(h api.ShHarbour) []shore {
	var ships [][]fate
	for _, s := range h.Ships {
		ships = append(ships, fatesOf(h, s))
	}
	var all []shore
fates:
	for _, fates := range oneOfEach(ships) {
		lost := 0
		for _, f := range fates {
			if f.sinks {
				lost++
			}
		}
		if lost > h.Lost {
			continue
		}
		for _, r := range h.Reports {
			if r.Kind <= api.ShAway && !isTold(r, fates[r.Of].calls[r.Port]) {
				continue fates
			}
		}
		var days [][]int
		for at := range h.Letters {
			days = append(days, daysOf(h, at, fates))
		}
		for _, comes := range oneOfEach(days) {
			all = append(all, shore{fates, comes})
		}
	}
	return all
}

// truth is what the tests hold for a truth of a book: on which day each letter comes, and to which letter each answer belongs.
type truth struct{ comes, of []int }

// canBe reports whether an answer can belong to a letter that comes on a day.
func canBe(b api.ReBook, answer, letter, day int) bool {
	a := b.Answers[answer]
	return a.Port == b.Harbour.Letters[letter].Port && a.Words|b.Words[letter] == b.Words[letter] && day+b.Back <= a.Day
}

// knownTruths returns the truths of a book, those with the same days once.
func knownTruths(b api.ReBook, shores []shore) []truth {
	var all []truth
	seen := map[[api.MaxShLetters]int]bool{}
	for _, s := range shores {
		var key [api.MaxShLetters]int
		copy(key[:], s.comes)
		if seen[key] {
			continue
		}
		seen[key] = true
		var letters [][]int
		for at := range b.Answers {
			can := []int{stray}
			for letter, day := range s.comes {
				if canBe(b, at, letter, day) {
					can = append(can, letter)
				}
			}
			letters = append(letters, can)
		}
		for _, of := range oneOfEach(letters) {
			if !isTwice(of) {
				all = append(all, truth{s.comes, of})
			}
		}
	}
	return all
}

// isTwice reports whether two answers belong to one letter.
func isTwice(of []int) bool {
	for at, letter := range of {
		if letter != stray && slices.Contains(of[:at], letter) {
			return true
		}
	}
	return false
}

// straysIn returns how many answers are strays in a truth.
func (x truth) straysIn() int {
	return len(slices.DeleteFunc(slices.Clone(x.of), func(letter int) bool { return letter != stray }))
}

// knownFair returns those of some truths that are fair.
func knownFair(known []truth) []truth {
	fewest := never
	for _, x := range known {
		fewest = min(fewest, x.straysIn())
	}
	return slices.DeleteFunc(slices.Clone(known), func(x truth) bool { return x.straysIn() > fewest })
}

// isAhead reports whether what answers belong to in one truth comes before what they do in another one.
func isAhead(one, other []int) bool {
	for at, letter := range one {
		if letter != other[at] {
			return other[at] == stray || letter != stray && letter < other[at]
		}
	}
	return false
}

// over returns whether something is so in all truths, in some or in none.
func over(known []truth, so func(x truth) bool) int {
	some, all := false, true
	for _, x := range known {
		some, all = some || so(x), all && so(x)
	}
	switch {
	case all:
		return api.Must
	case some:
		return api.May
	}
	return api.Never
}

// dice returns numbers that are the same in each run.
func dice(seed uint64) *rand.Rand { return rand.New(rand.NewPCG(seed, 6)) }

// oneOf returns one of some things.
func oneOf[T any](d *rand.Rand, things ...T) T { return things[d.IntN(len(things))] }

// anyShip returns a ship of a harbour.
func anyShip(d *rand.Rand, h api.ShHarbour) api.ShShip {
	late := oneOf(d, api.Span{}, api.Span{Hi: 1}, api.Span{Hi: 1}, api.Span{Lo: 1, Hi: 3}, api.Span{Lo: 3, Hi: 3})
	s := vessel(called(len(h.Ships)), d.IntN(5), late.Lo, late.Hi)
	after := 0
	for _, port := range d.Perm(h.Ports)[:1+d.IntN(min(h.Ports, api.MaxShCalls))] {
		after += 1 + d.IntN(3)
		s.Calls = append(s.Calls, api.ShCall{Port: port, After: after})
	}
	return s
}

// anyHarbour returns a harbour whose letters all can go by some ship.
func anyHarbour(d *rand.Rand) api.ShHarbour {
	h := api.ShHarbour{Ports: oneOf(d, 1, 1, 2, 2, 3, 4), Lost: oneOf(d, 0, 0, 1, 1, 2, 3)}
	for range oneOf(d, 1, 2, 2, 3) {
		h.Ships = append(h.Ships, anyShip(d, h))
	}
	for range oneOf(d, 0, 1, 2, 2, 3, 3, 4) {
		ship := d.IntN(len(h.Ships))
		s := h.Ships[ship]
		h.Letters = append(h.Letters, letter(s.Calls[d.IntN(len(s.Calls))].Port, d.IntN(s.Sails+1), oneOf(d, none, none, ship)))
	}
	return h
}

// anyReport returns a report of a harbour as a truth makes it.
func anyReport(d *rand.Rand, h api.ShHarbour, x shore) api.ShReport {
	r := said(oneOf(d, api.ShSeen, api.ShAway), d.IntN(len(h.Ships)), d.IntN(h.Ports), d.IntN(12))
	day := x.fates[r.Of].calls[r.Port]
	if len(h.Letters) > 0 && d.IntN(2) == 0 {
		r = said(oneOf(d, api.ShCame, api.ShLack), d.IntN(len(h.Letters)), 0, d.IntN(12))
		day = x.comes[r.Of]
	}
	switch isOn := r.Kind == api.ShSeen || r.Kind == api.ShCame; {
	case isOn && day == never:
		r.Kind++
	case isOn:
		r.Day = day
	default:
		r.Day = min(r.Day, day-1)
	}
	return r
}

// anyAnswer returns an answer of a book, which often is of a letter that came so, or would be if it were a day later.
func anyAnswer(d *rand.Rand, b api.ReBook, x shore) api.ReAnswer {
	a := answer(d.IntN(b.Harbour.Ports), 1+d.IntN(oneOf(d, 7, api.MaxReBits)), d.IntN(30))
	if len(x.comes) == 0 || d.IntN(6) == 0 {
		return a
	}
	of := d.IntN(len(x.comes))
	a.Port, a.Words = b.Harbour.Letters[of].Port, someOf(d, b.Words[of])
	if x.comes[of] < never {
		a.Day = max(0, min(x.comes[of]+b.Back-1+d.IntN(4), api.MaxShDay))
	}
	return a
}

// someOf returns some of some words.
func someOf(d *rand.Rand, words int) int {
	for {
		if some := words & d.IntN(api.MaxReBits+1); some > 0 {
			return some
		}
	}
}

// anyBook returns a book that has a truth, and the truths of its harbour.
func anyBook(d *rand.Rand) (api.ReBook, []shore) {
	b := api.ReBook{Harbour: anyHarbour(d), Back: oneOf(d, 1, 1, 2, 3, 4, api.MaxReBack)}
	for range b.Harbour.Letters {
		b.Words = append(b.Words, 1+d.IntN(oneOf(d, 3, 7, 7, api.MaxReBits)))
	}
	shores := knownShores(b.Harbour)
	for range oneOf(d, 0, 0, 1, 2) {
		b = heard(b, anyReport(d, b.Harbour, shores[d.IntN(len(shores))]))
		shores = knownShores(b.Harbour)
	}
	for range oneOf(d, 0, 1, 2, 2, 3, 3, 3) {
		b = answered(b, anyAnswer(d, b, shores[d.IntN(len(shores))]))
	}
	return b, shores
}

// eachBook calls a test for many books, with the truths of their harbours.
func eachBook(t *testing.T, test func(t *testing.T, d *rand.Rand, b api.ReBook, shores []shore)) {
	for seed := range uint64(800) {
		d := dice(seed)
		b, shores := anyBook(d)
		checked(t, b)
		test(t, d, b, shores)
		if t.Failed() {
			t.Fatalf("the book was %+v", b)
		}
	}
}

// checked checks that there is nothing wrong with a book.
func checked(t *testing.T, b api.ReBook) {
	t.Helper()
	if part, at, e := reply.Check(b); part != 0 || at != 0 || e != api.OK {
		t.Fatalf("Check of %+v = %d, %d, %d", b, part, at, e)
	}
}

// subsetOf reports whether all of some numbers are among others.
func subsetOf(some, others []int) bool {
	return !slices.ContainsFunc(some, func(n int) bool { return !slices.Contains(others, n) })
}
