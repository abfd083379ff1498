package reply_test

import (
	"math"
	"math/rand/v2"
	"slices"
	"testing"

	"escribano/api"
	"escribano/reply"
	"escribano/ship"
)

// P6.2: which letters an answer can belong to is what the tests hold for it
func TestKnownCould(t *testing.T) {
	counts := map[int]int{}
	eachBook(t, func(t *testing.T, d *rand.Rand, b api.ReBook, shores []shore) {
		for at := range b.Answers {
			var want []int
			for letter := range b.Harbour.Letters {
				if slices.ContainsFunc(shores, func(s shore) bool { return canBe(b, at, letter, s.comes[letter]) }) {
					want = append(want, letter)
				}
			}
			if l := must[[]int](t)(reply.Could(b, at)); !slices.Equal(l, want) {
				t.Errorf("Could of %d = %v, not %v", at, l, want)
			}
			counts[len(want)]++
		}
	})
	if counts[0] < 200 || counts[1] < 200 || counts[2] < 100 {
		t.Errorf("only %v", counts)
	}
}

// firstOf returns what answers belong to in the first of some fair truths.
func firstOf(fair []truth) []int {
	first := fair[0].of
	for _, x := range fair {
		if isAhead(x.of, first) {
			first = x.of
		}
	}
	return first
}

// P6.3, P6.4, P9: what is told of answers, and of letters that wait, is what the tests hold for it
func TestKnownFair(t *testing.T) {
	hows, strays, several := map[int]int{}, map[int]int{}, 0
	eachBook(t, func(t *testing.T, d *rand.Rand, b api.ReBook, shores []shore) {
		fair := knownFair(knownTruths(b, shores))
		want := fairly{first: firstOf(fair), strays: fair[0].straysIn()}
		for at := range b.Answers {
			var row []int
			for letter := range b.Harbour.Letters {
				row = append(row, over(fair, func(x truth) bool { return x.of[at] == letter }))
				hows[row[letter]]++
			}
			want.belongs = append(want.belongs, row)
			want.sure, want.may = added(want.sure, want.may, at, over(fair, func(x truth) bool { return x.of[at] == stray }))
		}
		for letter := range b.Harbour.Letters {
			how := over(fair, func(x truth) bool { return !slices.Contains(x.of, letter) })
			want.sureWait, want.mayWait = added(want.sureWait, want.mayWait, letter, how)
		}
		checkFairly(t, "fair", b, want)
		strays[want.strays]++
		if len(want.may) > len(want.sure) || len(want.mayWait) > len(want.sureWait) {
			several++
		}
	})
	if hows[api.May] < 200 || hows[api.Must] < 200 || hows[api.Never] < 200 || strays[0] < 200 || strays[1] < 200 || strays[2] < 20 || several < 100 {
		t.Errorf("only %v belong, %v strays, %d not sure", hows, strays, several)
	}
}

// added returns what is so surely, and perhaps, with one thing more.
func added(sure, may []int, at, how int) ([]int, []int) {
	if how == api.Must {
		sure = append(sure, at)
	}
	if how != api.Never {
		may = append(may, at)
	}
	return sure, may
}

// P6.5: when letters come is what the tests hold for it
func TestKnownCame(t *testing.T) {
	hows, narrower := map[int]int{}, 0
	eachBook(t, func(t *testing.T, d *rand.Rand, b api.ReBook, shores []shore) {
		fair := knownFair(knownTruths(b, shores))
		for letter := range b.Harbour.Letters {
			want, how := knownCame(fair, letter)
			days, is := mustTwo[api.Span, int](t)(reply.Came(b, letter))
			if days != want || is != how {
				t.Errorf("Came of %d = %v, %d, not %v, %d", letter, days, is, want, how)
			}
			hows[how]++
			unanswered := b
			unanswered.Answers = nil
			if was, _ := mustTwo[api.Span, int](t)(reply.Came(unanswered, letter)); was != days {
				narrower++
			}
		}
	})
	if hows[api.May] < 100 || hows[api.Must] < 200 || hows[api.Never] < 30 || narrower < 50 {
		t.Errorf("only %v come, %d by answers", hows, narrower)
	}
}

// knownCame returns the days on which a letter comes in some truths, and whether it does.
func knownCame(known []truth, letter int) (api.Span, int) {
	days := api.Span{Lo: never, Hi: -1}
	for _, x := range known {
		if day := x.comes[letter]; day < never {
			days = api.Span{Lo: min(days.Lo, day), Hi: max(days.Hi, day)}
		}
	}
	if days.Hi < 0 {
		days = api.Span{}
	}
	return days, over(known, func(x truth) bool { return x.comes[letter] < never })
}

// naming is a book whose answer names one word more.
func naming(b api.ReBook, answer, word int) api.ReBook {
	b.Answers = slices.Clone(b.Answers)
	b.Answers[answer].Words |= 1 << word
	return b
}

// isSure reports whether an answer surely belongs to one letter.
func isSure(t *testing.T, b api.ReBook, answer int) bool {
	for letter := range b.Harbour.Letters {
		if must[int](t)(reply.Belongs(b, answer, letter)) == api.Must {
			return true
		}
	}
	return false
}

// P6.6, P6.11: with a word of Decides the answer surely belongs to a letter, with any other one it does not
func TestWord(t *testing.T) {
	yes, not := 0, 0
	eachBook(t, func(t *testing.T, d *rand.Rand, b api.ReBook, shores []shore) {
		for at, a := range b.Answers {
			l := must[[]int](t)(reply.Decides(b, at))
			if !slices.IsSorted(l) {
				t.Errorf("Decides of %d = %v", at, l)
			}
			for word := range api.MaxReWords {
				is := slices.Contains(l, word)
				if a.Words>>word&1 == 1 {
					if is {
						t.Errorf("Decides of %d = %v", at, l)
					}
					continue
				}
				next := naming(b, at, word)
				fair := knownFair(knownTruths(next, shores))
				of := fair[0].of[at]
				so := of != stray && over(fair, func(x truth) bool { return x.of[at] == of }) == api.Must
				if is != so || is != isSure(t, next, at) {
					t.Errorf("Decides of %d = %v, with %d it is sure: %t", at, l, word, so)
				}
				if is && !isSure(t, b, at) {
					yes++
				} else if !is {
					not++
				}
			}
		}
	})
	if yes < 50 || not < 500 {
		t.Errorf("only %d words decide, %d do not", yes, not)
	}
}

// ownAnswers returns a book with answers as a truth makes them, and their letters.
func ownAnswers(d *rand.Rand, b api.ReBook, x shore) (api.ReBook, []int) {
	b.Answers = nil
	var of []int
	for _, letter := range d.Perm(len(x.comes)) {
		day := x.comes[letter] + b.Back
		if day > api.MaxShDay || len(of) == api.MaxReAnswers || d.IntN(4) == 0 {
			continue
		}
		of = append(of, letter)
		b = answered(b, answer(b.Harbour.Letters[letter].Port, someOf(d, b.Words[letter]), min(day+d.IntN(3), api.MaxShDay)))
	}
	return b, of
}

// P6.7: of answers as a truth makes them none is a stray, to its own letter each may belong, and this has come then
func TestOwn(t *testing.T) {
	own, ambiguous := 0, 0
	eachBook(t, func(t *testing.T, d *rand.Rand, b api.ReBook, shores []shore) {
		x := shores[d.IntN(len(shores))]
		b, of := ownAnswers(d, b, x)
		checked(t, b)
		if strays := straysOf(t, b); strays != 0 {
			t.Errorf("%+v: %d strays", b, strays)
		}
		if sure, may := mustTwo[[]int, []int](t)(reply.Strays(b)); len(sure)+len(may) > 0 {
			t.Errorf("%+v: Strays = %v, %v", b, sure, may)
		}
		for at, letter := range of {
			own++
			how := must[int](t)(reply.Belongs(b, at, letter))
			if how == api.Never {
				t.Errorf("%+v: %d does not belong to %d", b, at, letter)
			}
			if how == api.May {
				ambiguous++
			}
			if l := must[[]int](t)(reply.Could(b, at)); !slices.Contains(l, letter) {
				t.Errorf("%+v: Could of %d = %v, not %d", b, at, l, letter)
			}
			if days, how := mustTwo[api.Span, int](t)(reply.Came(b, letter)); how == api.Never || days.Lo > x.comes[letter] || days.Hi < x.comes[letter] {
				t.Errorf("%+v: Came of %d = %v, %d, it came on %d", b, letter, days, how, x.comes[letter])
			}
		}
	})
	if own < 500 || ambiguous < 100 {
		t.Errorf("only %d answers, %d can be of several letters", own, ambiguous)
	}
}

// P6.8, P9: what First returns is in a truth, and in no truth fewer are strays
func TestFewest(t *testing.T) {
	eachBook(t, func(t *testing.T, d *rand.Rand, b api.ReBook, shores []shore) {
		known := knownTruths(b, shores)
		first, strays := mustTwo[[]int, int](t)(reply.First(b))
		if !slices.ContainsFunc(known, func(x truth) bool { return slices.Equal(x.of, first) }) {
			t.Errorf("First = %v is in no truth", first)
		}
		for _, x := range known {
			if x.straysIn() < strays {
				t.Errorf("First = %v, %d, in the truth %v are fewer", first, strays, x)
			}
		}
		if n := (truth{of: first}).straysIn(); n != strays {
			t.Errorf("First = %v, %d", first, strays)
		}
	})
}

// P6.9: no letter has two answers
func TestOnce(t *testing.T) {
	sure := 0
	eachBook(t, func(t *testing.T, d *rand.Rand, b api.ReBook, shores []shore) {
		first, _ := mustTwo[[]int, int](t)(reply.First(b))
		if isTwice(first) {
			t.Errorf("First = %v", first)
		}
		waits, _ := mustTwo[[]int, []int](t)(reply.Waits(b))
		for letter := range b.Harbour.Letters {
			for at := range b.Answers {
				if must[int](t)(reply.Belongs(b, at, letter)) != api.Must {
					continue
				}
				sure++
				if slices.Contains(waits, letter) {
					t.Errorf("%d waits, but %d surely belongs to it", letter, at)
				}
				for other := range b.Answers {
					if other != at && must[int](t)(reply.Belongs(b, other, letter)) != api.Never {
						t.Errorf("%d surely belongs to %d, but %d may", at, letter, other)
					}
				}
			}
		}
	})
	if sure < 200 {
		t.Errorf("only %d belong surely", sure)
	}
}

// P6.10
func TestOneMore(t *testing.T) {
	more := map[int]int{}
	eachBook(t, func(t *testing.T, d *rand.Rand, b api.ReBook, shores []shore) {
		for at := range b.Answers {
			was, is := straysOf(t, without(b, at)), straysOf(t, b)
			if is != was && is != was+1 {
				t.Errorf("%d strays without %d, %d with it", was, at, is)
			}
			more[is-was]++
		}
	})
	if more[0] < 200 || more[1] < 200 {
		t.Errorf("only %v strays more", more)
	}
}

// P6.12
func TestSooner(t *testing.T) {
	moreLetters, fewerStrays := 0, 0
	eachBook(t, func(t *testing.T, d *rand.Rand, b api.ReBook, shores []shore) {
		next := cloned(b)
		if d.IntN(2) == 0 {
			next.Back = 1 + d.IntN(b.Back)
		} else {
			for at, a := range b.Answers {
				next.Answers[at].Day = min(a.Day+d.IntN(8), api.MaxShDay)
			}
		}
		for at := range b.Answers {
			was, is := must[[]int](t)(reply.Could(b, at)), must[[]int](t)(reply.Could(next, at))
			if !subsetOf(was, is) {
				t.Errorf("%+v: Could of %d was %v, is %v", next, at, was, is)
			}
			if len(is) > len(was) {
				moreLetters++
			}
		}
		was, is := straysOf(t, b), straysOf(t, next)
		if is > was {
			t.Errorf("%+v: strays were %d, are %d", next, was, is)
		}
		if is < was {
			fewerStrays++
		}
	})
	if moreLetters < 100 || fewerStrays < 50 {
		t.Errorf("only %d with more letters, %d with fewer strays", moreLetters, fewerStrays)
	}
}

// P6.13: with one more report
func TestOneMoreReport(t *testing.T) {
	fewerLetters, moreStrays := 0, 0
	eachBook(t, func(t *testing.T, d *rand.Rand, b api.ReBook, shores []shore) {
		next := heard(b, anyReport(d, b.Harbour, shores[d.IntN(len(shores))]))
		checked(t, next)
		for at := range b.Answers {
			was, is := must[[]int](t)(reply.Could(b, at)), must[[]int](t)(reply.Could(next, at))
			if !subsetOf(is, was) {
				t.Errorf("%+v: Could of %d was %v, is %v", next, at, was, is)
			}
			if len(is) < len(was) {
				fewerLetters++
			}
		}
		was, is := straysOf(t, b), straysOf(t, next)
		if is < was {
			t.Errorf("%+v: strays were %d, are %d", next, was, is)
		}
		if is > was {
			moreStrays++
		}
	})
	if fewerLetters < 50 || moreStrays < 30 {
		t.Errorf("only %d with fewer letters, %d with more strays", fewerLetters, moreStrays)
	}
}

// P6.13: each letter came on a day on which it can have come
func TestCanHaveCome(t *testing.T) {
	comes := 0
	eachBook(t, func(t *testing.T, d *rand.Rand, b api.ReBook, shores []shore) {
		for letter := range b.Harbour.Letters {
			days, how := mustTwo[api.Span, int](t)(reply.Came(b, letter))
			if how == api.Never {
				continue
			}
			comes++
			for _, day := range []int{days.Lo, days.Hi} {
				if l, e := ship.Wrong(heard(b, said(api.ShCame, letter, 0, day)).Harbour); len(l) > 0 || e != api.OK {
					t.Errorf("Came of %d = %v, but it cannot have come on %d", letter, days, day)
				}
			}
			if must[int](t)(ship.Come(b.Harbour, letter, days.Hi)) == api.Never {
				t.Errorf("Came of %d = %v, but it never has come until then", letter, days)
			}
		}
	})
	if comes < 500 {
		t.Errorf("only %d come", comes)
	}
}

// P6.14
func TestOtherOrder(t *testing.T) {
	eachBook(t, func(t *testing.T, d *rand.Rand, b api.ReBook, shores []shore) {
		next := cloned(b)
		order := d.Perm(len(b.Answers))
		for at, from := range order {
			next.Answers[at] = b.Answers[from]
		}
		if was, is := straysOf(t, b), straysOf(t, next); was != is {
			t.Errorf("in the order %v: %d strays, not %d", order, is, was)
		}
		may, sure := mustTwo[[]int, []int](t)(reply.Waits(b))
		mayNow, sureNow := mustTwo[[]int, []int](t)(reply.Waits(next))
		if !slices.Equal(may, mayNow) || !slices.Equal(sure, sureNow) {
			t.Errorf("in the order %v: Waits = %v, %v, not %v, %v", order, mayNow, sureNow, may, sure)
		}
		for at, from := range order {
			if was, is := must[[]int](t)(reply.Decides(b, from)), must[[]int](t)(reply.Decides(next, at)); !slices.Equal(was, is) {
				t.Errorf("in the order %v: Decides of %d = %v, not %v", order, at, is, was)
			}
		}
	})
}

// spare is a list with more memory behind it, which holds a thing of its own.
func spare[T any](l []T, behind T) []T { return append(slices.Clone(l), behind, behind)[:len(l)] }

// isSpare reports whether the memory behind a list is as it was.
func isSpare[T comparable](l []T, behind T) bool {
	return l[:len(l)+1][len(l)] == behind && l[:len(l)+2][len(l)+1] == behind
}

// P6.15: arguments stay as they are, and what lies behind them too
func TestNotModified(t *testing.T) {
	eachBook(t, func(t *testing.T, d *rand.Rand, b api.ReBook, shores []shore) {
		b = cloned(b)
		h := &b.Harbour
		b.Words, b.Answers = spare(b.Words, 77), spare(b.Answers, answer(7, 7, 7))
		h.Letters, h.Reports = spare(h.Letters, letter(7, 7, 7)), spare(h.Reports, said(7, 7, 7, 7))
		was, q := cloned(b), asked{0, 0}
		first := ask(b, q)
		if !sameBook(b, was) || !isSpare(b.Words, 77) || !isSpare(b.Answers, answer(7, 7, 7)) ||
			!isSpare(h.Letters, letter(7, 7, 7)) || !isSpare(h.Reports, said(7, 7, 7, 7)) {
			t.Error("an argument was modified")
		}
		if again := ask(b, q); !sameResults(first, again) {
			t.Errorf("%+v, then %+v", first, again)
		}
	})
}

// P6.15: a result is new memory, and nothing is kept between calls
func TestNewMemory(t *testing.T) {
	b := answered(telling(steady(1, 1, 1), 31, 31, 31), answer(0, 1, 60), answer(0, 1, 60))
	b.Harbour.Letters = append(b.Harbour.Letters, letter(0, 0, 0))
	b.Words = append(b.Words, 31)
	waiting := b
	waiting.Answers = b.Answers[:0]
	strays := answered(waiting, answer(1, 1, 1), answer(1, 1, 1))
	alone := waiting
	alone.Harbour.Letters, alone.Words, alone.Answers = b.Harbour.Letters[:1], b.Words[:1], b.Answers[:1]
	all := func() [][]int {
		var l [][]int
		for _, b := range []api.ReBook{b, waiting, strays, alone} {
			l = append(l, ask(b, asked{0, 0}).lists()...)
		}
		return l
	}
	was := []api.ReBook{cloned(b), cloned(waiting), cloned(strays), cloned(alone)}
	once, twice := all(), all()
	many := 0
	for _, l := range once {
		for at := range l {
			many++
			l[at] = -5
		}
	}
	if many < 20 {
		t.Errorf("only %d numbers", many)
	}
	for _, l := range twice {
		if slices.Contains(l, -5) {
			t.Errorf("%v was changed", l)
		}
	}
	for at, now := range []api.ReBook{b, waiting, strays, alone} {
		if !sameBook(now, was[at]) {
			t.Errorf("the book %d was changed", at)
		}
	}
	if again := all(); !slices.EqualFunc(again, twice, slices.Equal[[]int]) {
		t.Errorf("%v, then %v", twice, again)
	}
	if sure, may := mustTwo[[]int, []int](t)(reply.Strays(strays)); len(sure) > 0 {
		sure[0] = -5
		if may[0] == -5 {
			t.Error("two results share memory")
		}
	}
	if may, sure := mustTwo[[]int, []int](t)(reply.Waits(waiting)); len(sure) > 0 {
		sure[0] = -5
		if may[0] == -5 {
			t.Error("two results share memory")
		}
	}
}

// P6.15, R3: a nil slice and an empty one are the same
func TestNilAndEmpty(t *testing.T) {
	none := api.ReBook{Harbour: api.ShHarbour{Ports: 1}, Back: 1}
	empty := api.ReBook{Harbour: api.ShHarbour{Ports: 1, Ships: []api.ShShip{}, Letters: []api.ShLetter{}, Reports: []api.ShReport{}}, Words: []int{}, Back: 1, Answers: []api.ReAnswer{}}
	one, other := ask(none, asked{0, 0}), ask(empty, asked{0, 0})
	if !sameResults(one, other) || one.errors != [7]api.Errno{0: api.ErrNone, 2: api.ErrNone, 5: api.ErrNone, 6: api.ErrNone} {
		t.Errorf("%+v, %+v", one, other)
	}
}

// P1, P6.15, R5: any arguments are accepted
func TestAnyArguments(t *testing.T) {
	numbers := []int{math.MinInt, math.MinInt + 1, -61, -2, -1, 0, 1, 2, 3, 4, 5, 20, 21, 31, 32, 60, 61, math.MaxInt - 1, math.MaxInt}
	codes := map[api.Errno]int{}
	for seed := range uint64(6000) {
		d := dice(seed)
		b := cloned(example())
		for range 1 + d.IntN(2) {
			n := numbers[d.IntN(len(numbers))]
			place := []*int{
				&b.Back, &b.Words[0], &b.Words[1], &b.Answers[0].Port, &b.Answers[1].Words, &b.Answers[2].Day, &b.Harbour.Ports, &b.Harbour.Lost,
				&b.Harbour.Ships[0].Sails, &b.Harbour.Ships[1].Late.Hi, &b.Harbour.Ships[0].Calls[1].After, &b.Harbour.Ships[0].Calls[0].Port,
				&b.Harbour.Letters[0].Port, &b.Harbour.Letters[0].Day, &b.Harbour.Letters[1].Ship, &b.Harbour.Reports[0].Kind, &b.Harbour.Reports[0].Of, &b.Harbour.Reports[0].Day,
			}
			*place[d.IntN(len(place))] = n
		}
		_, _, e := reply.Check(b)
		codes[e]++
		r := ask(b, asked{oneOf(d, numbers...), oneOf(d, numbers...)})
		if e != api.OK && r.errors != allErrors(e) {
			t.Errorf("%+v: Check has the error %d, the others %v", b, e, r.errors)
		}
	}
	for _, e := range []api.Errno{api.OK, api.ErrArg, api.ErrNone, api.ErrRange, api.ErrZero} {
		if codes[e] < 50 {
			t.Errorf("only %v errors", codes)
		}
	}
}

// P1: the most of everything
func TestLargest(t *testing.T) {
	b := api.ReBook{Harbour: api.ShHarbour{Ports: api.MaxShPorts, Lost: api.MaxShShips}, Back: 1}
	for at := range api.MaxShShips {
		b.Harbour.Ships = append(b.Harbour.Ships, vessel(called(at), 20, 0, 3, 0, 1, 1, 2, 2, 20))
	}
	for range api.MaxShLetters {
		b.Harbour.Letters = append(b.Harbour.Letters, letter(2, 0, none))
		b.Words = append(b.Words, api.MaxReBits)
	}
	for range api.MaxShReports {
		b = heard(b, said(api.ShAway, 0, 3, api.MaxShDay))
	}
	for range api.MaxReAnswers {
		b = answered(b, answer(2, 1, api.MaxShDay))
	}
	checked(t, b)
	r := ask(b, asked{2, 3})
	want := results{
		could: []int{0, 1, 2, 3}, first: []int{0, 1, 2}, belongs: api.May, mayWait: []int{0, 1, 2, 3},
		days: api.Span{Lo: 40, Hi: 43}, came: api.May,
	}
	if !sameResults(r, want) {
		t.Errorf("%+v", r)
	}
	b.Back = api.MaxReBack
	if r := ask(b, asked{2, 3}); !sameResults(r, want) {
		t.Errorf("with the longest way back: %+v", r)
	}
}
