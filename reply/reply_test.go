package reply_test

import (
	"math"
	"slices"
	"testing"

	"escribano/api"
	"escribano/reply"
)

// wrong is one thing that is wrong with a book: what Check returns of it.
type wrong struct {
	name     string
	change   func(b *api.ReBook)
	part, at int
	e        api.Errno
}

// aHarbour and anAnswer are changes of the harbour, and of the answer 1.
func aHarbour(change func(h *api.ShHarbour)) func(b *api.ReBook) {
	return func(b *api.ReBook) { change(&b.Harbour) }
}

func anAnswer(change func(a *api.ReAnswer)) func(b *api.ReBook) {
	return func(b *api.ReBook) { change(&b.Answers[1]) }
}

// wrongs returns what can be wrong, in the order of the errors.
func wrongs() []wrong {
	return []wrong{
		{"harbour", aHarbour(func(h *api.ShHarbour) { h.Ships[1].Late = api.Span{Lo: 1} }), 1, 0, api.ErrArg},
		{"words of too many letters", func(b *api.ReBook) { b.Words = append(b.Words, 1) }, 2, 0, api.ErrLong},
		{"words", func(b *api.ReBook) { b.Words[1] = 32 }, 2, 1, api.ErrRange},
		{"back", func(b *api.ReBook) { b.Back = 21 }, 3, 0, api.ErrRange},
		{"too many answers", func(b *api.ReBook) { b.Answers = append(b.Answers, answer(0, 1, 1)) }, 4, 0, api.ErrLong},
		{"port", anAnswer(func(a *api.ReAnswer) { a.Port = 2 }), 4, 1, api.ErrNone},
		{"words of an answer", anAnswer(func(a *api.ReAnswer) { a.Words = 0 }), 4, 1, api.ErrRange},
		{"no truth", aHarbour(func(h *api.ShHarbour) { h.Reports[0].Day = 9 }), 5, 0, api.ErrZero},
	}
}

// moreWrongs returns what else can be wrong, and what is not.
func moreWrongs() []wrong {
	return []wrong{
		{"nothing", func(b *api.ReBook) {}, 0, 0, api.OK},
		{"ports", aHarbour(func(h *api.ShHarbour) { h.Ports = 0 }), 1, 0, api.ErrRange},
		{"too many ships", aHarbour(func(h *api.ShHarbour) { h.Ships = make([]api.ShShip, 4) }), 1, 0, api.ErrLong},
		{"name of a ship", aHarbour(func(h *api.ShHarbour) { h.Ships[1].Name = "B" }), 1, 0, api.ErrForm},
		{"name of a ship twice", aHarbour(func(h *api.ShHarbour) { h.Ships[1].Name = "alba" }), 1, 0, api.ErrTwice},
		{"port of a letter", aHarbour(func(h *api.ShHarbour) { h.Letters[1].Port = 2 }), 1, 0, api.ErrNone},
		{"ship of a letter", aHarbour(func(h *api.ShHarbour) { h.Letters[1].Ship = math.MaxInt }), 1, 0, api.ErrNone},
		{"kind of a report", aHarbour(func(h *api.ShHarbour) { h.Reports = append(h.Reports, said(4, 0, 0, 0)) }), 1, 0, api.ErrRange},
		{"words of too few letters", func(b *api.ReBook) { b.Words = []int{3} }, 2, 0, api.ErrLong},
		{"no words", func(b *api.ReBook) { b.Words = nil }, 2, 0, api.ErrLong},
		{"words of far too many letters", func(b *api.ReBook) { b.Words = make([]int, 100) }, 2, 0, api.ErrLong},
		{"no word of the first letter", func(b *api.ReBook) { b.Words = []int{0, 0} }, 2, 0, api.ErrRange},
		{"no word of a letter", func(b *api.ReBook) { b.Words[1] = 0 }, 2, 1, api.ErrRange},
		{"words below 0", func(b *api.ReBook) { b.Words[1] = -1 }, 2, 1, api.ErrRange},
		{"far words", func(b *api.ReBook) { b.Words[1] = math.MaxInt }, 2, 1, api.ErrRange},
		{"far words below 0", func(b *api.ReBook) { b.Words[1] = math.MinInt }, 2, 1, api.ErrRange},
		{"all words, and one", func(b *api.ReBook) { b.Words = []int{31, 1} }, 0, 0, api.OK},
		{"no back", func(b *api.ReBook) { b.Back = 0 }, 3, 0, api.ErrRange},
		{"back below 0", func(b *api.ReBook) { b.Back = math.MinInt }, 3, 0, api.ErrRange},
		{"far back", func(b *api.ReBook) { b.Back = math.MaxInt }, 3, 0, api.ErrRange},
		{"least back", func(b *api.ReBook) { b.Back = 1 }, 0, 0, api.OK},
		{"greatest back", func(b *api.ReBook) { b.Back = 20 }, 0, 0, api.OK},
		{"no answers", func(b *api.ReBook) { b.Answers = nil }, 0, 0, api.OK},
		{"far too many answers", func(b *api.ReBook) { b.Answers = make([]api.ReAnswer, 100) }, 4, 0, api.ErrLong},
		{"first answer", func(b *api.ReBook) { b.Answers[0].Words = 32 }, 4, 0, api.ErrRange},
		{"last answer", func(b *api.ReBook) { b.Answers[2].Day = 61 }, 4, 2, api.ErrRange},
		{"port below 0", anAnswer(func(a *api.ReAnswer) { a.Port = -1 }), 4, 1, api.ErrNone},
		{"far port", anAnswer(func(a *api.ReAnswer) { a.Port = math.MaxInt }), 4, 1, api.ErrNone},
		{"port of no letter", anAnswer(func(a *api.ReAnswer) { a.Port = 0 }), 0, 0, api.OK},
		{"most words of an answer", anAnswer(func(a *api.ReAnswer) { a.Words = 31 }), 0, 0, api.OK},
		{"too many words of an answer", anAnswer(func(a *api.ReAnswer) { a.Words = 32 }), 4, 1, api.ErrRange},
		{"words of an answer below 0", anAnswer(func(a *api.ReAnswer) { a.Words = math.MinInt }), 4, 1, api.ErrRange},
		{"first day", anAnswer(func(a *api.ReAnswer) { a.Day = 0 }), 0, 0, api.OK},
		{"last day", anAnswer(func(a *api.ReAnswer) { a.Day = 60 }), 0, 0, api.OK},
		{"day behind the last one", anAnswer(func(a *api.ReAnswer) { a.Day = 61 }), 4, 1, api.ErrRange},
		{"day below 0", anAnswer(func(a *api.ReAnswer) { a.Day = -1 }), 4, 1, api.ErrRange},
		{"far day", anAnswer(func(a *api.ReAnswer) { a.Day = math.MaxInt }), 4, 1, api.ErrRange},
		{"far day below 0", anAnswer(func(a *api.ReAnswer) { a.Day = math.MinInt }), 4, 1, api.ErrRange},
		{"letter that no ship takes", aHarbour(func(h *api.ShHarbour) { h.Letters[1].Day = 20 }), 5, 0, api.ErrZero},
		{"nothing there", func(b *api.ReBook) { *b = api.ReBook{Harbour: api.ShHarbour{Ports: 1}, Back: 1} }, 0, 0, api.OK},
		{"nothing at all", func(b *api.ReBook) { *b = api.ReBook{} }, 1, 0, api.ErrRange},
	}
}

// allErrors is an error of all functions but Check.
func allErrors(e api.Errno) [7]api.Errno { return [7]api.Errno{e, e, e, e, e, e, e} }

// P6.1: each error, which all functions return first
func TestCheckEach(t *testing.T) {
	for _, w := range append(wrongs(), moreWrongs()...) {
		b := example()
		w.change(&b)
		part, at, e := reply.Check(b)
		if part != w.part || at != w.at || e != w.e {
			t.Errorf("%s: Check = %d, %d, %d", w.name, part, at, e)
		}
		if e == api.OK {
			continue
		}
		for _, q := range []asked{{0, 0}, {9, 9}, {-1, -1}} {
			if got := ask(b, q).errors; got != allErrors(e) {
				t.Errorf("%s: errors %v", w.name, got)
			}
		}
	}
}

// P6.1, P1: of two errors the one that is named first
func TestCheckFirst(t *testing.T) {
	all := wrongs()
	for i, w := range all {
		for _, x := range all[i+1:] {
			b := example()
			x.change(&b)
			w.change(&b)
			if part, at, e := reply.Check(b); part != w.part || at != w.at || e != w.e {
				t.Errorf("%s, and %s: Check = %d, %d, %d", w.name, x.name, part, at, e)
			}
		}
	}
}

// P6.1, R1: of two letters or answers with an error the first one, whatever its error is
func TestCheckFirstThing(t *testing.T) {
	for _, c := range []wrong{
		{"two letters", func(b *api.ReBook) { b.Words = []int{32, 0} }, 2, 0, api.ErrRange},
		{"day, and port of the next answer", func(b *api.ReBook) { b.Answers[0].Day, b.Answers[1].Port = 61, 9 }, 4, 0, api.ErrRange},
		{"port and day of an answer", func(b *api.ReBook) { b.Answers[1] = answer(2, 0, 61) }, 4, 1, api.ErrNone},
		{"words and port of the next answer", func(b *api.ReBook) { b.Answers[1].Words, b.Answers[2].Port = 32, -1 }, 4, 1, api.ErrRange},
		{"day, and no truth", func(b *api.ReBook) { b.Answers[2].Day, b.Harbour.Letters[0].Day = -1, 20 }, 4, 2, api.ErrRange},
		{"harbour, and no truth", func(b *api.ReBook) { b.Harbour.Letters[0].Day, b.Harbour.Lost = 20, -1 }, 1, 0, api.ErrRange},
	} {
		b := example()
		c.change(&b)
		if part, at, e := reply.Check(b); part != c.part || at != c.at || e != c.e {
			t.Errorf("%s: Check = %d, %d, %d", c.name, part, at, e)
		}
	}
}

// P6.2 to P6.6, P1: the errors behind that of Check
func TestErrors(t *testing.T) {
	const no = api.ErrNone
	empty := api.ReBook{Harbour: api.ShHarbour{Ports: 1}, Back: 1}
	for i, c := range []struct {
		b    api.ReBook
		q    asked
		want [7]api.Errno
	}{
		{example(), asked{0, 0}, [7]api.Errno{}},
		{example(), asked{2, 1}, [7]api.Errno{}},
		{example(), asked{3, 0}, [7]api.Errno{0: no, 2: no, 6: no}},
		{example(), asked{-1, 0}, [7]api.Errno{0: no, 2: no, 6: no}},
		{example(), asked{math.MaxInt, 1}, [7]api.Errno{0: no, 2: no, 6: no}},
		{example(), asked{math.MinInt, 1}, [7]api.Errno{0: no, 2: no, 6: no}},
		{example(), asked{0, 2}, [7]api.Errno{2: no, 5: no}},
		{example(), asked{2, -1}, [7]api.Errno{2: no, 5: no}},
		{example(), asked{2, math.MaxInt}, [7]api.Errno{2: no, 5: no}},
		{example(), asked{2, math.MinInt}, [7]api.Errno{2: no, 5: no}},
		{example(), asked{3, 2}, [7]api.Errno{0: no, 2: no, 5: no, 6: no}},
		{less(), asked{2, 0}, [7]api.Errno{0: no, 2: no, 6: no}},
		{empty, asked{0, 0}, [7]api.Errno{0: no, 2: no, 5: no, 6: no}},
		{answered(empty, answer(0, 1, 0)), asked{0, 0}, [7]api.Errno{2: no, 5: no}},
	} {
		if got := ask(c.b, c.q).errors; got != c.want {
			t.Errorf("%d: errors %v", i, got)
		}
	}
}

// P6.2 to P6.6, R2: with an error every other result is its zero value
func TestZeroWithError(t *testing.T) {
	noTruth := example()
	noTruth.Harbour.Reports[0].Day = 9
	noBack := example()
	noBack.Back = 0
	for i, c := range []struct {
		b api.ReBook
		q asked
	}{{noTruth, asked{0, 0}}, {noBack, asked{0, 0}}, {example(), asked{3, 2}}, {example(), asked{-1, -1}}, {example(), asked{0, 2}}} {
		r := ask(c.b, c.q)
		for at, n := range []int{len(r.could), len(r.first) + r.strays, r.belongs, len(r.sureStrays) + len(r.mayStrays), len(r.mayWait) + len(r.sureWait), r.days.Lo + r.days.Hi + r.came, len(r.decides)} {
			if r.errors[at] != api.OK && n != 0 {
				t.Errorf("%d: %+v", i, r)
			}
		}
		if r.errors == [7]api.Errno{} {
			t.Errorf("%d: no error", i)
		}
	}
}

// P6.2: from the port, with the words, and in time
func TestCould(t *testing.T) {
	two := telling(steady(5, 8), 3, 6)
	late := telling(steady(5, 8), 1, 1)
	late.Harbour.Ships[0].Late, late.Harbour.Ships[1].Late = api.Span{Hi: 3}, api.Span{Lo: 1, Hi: 2}
	lost := telling(steady(5, 8), 1, 1)
	lost.Harbour.Lost = 1
	far := telling(steady(5, 8), 1, 1)
	far.Back = 20
	for i, c := range []struct {
		b    api.ReBook
		a    api.ReAnswer
		want []int
	}{
		{two, answer(0, 2, 60), []int{0, 1}},
		{two, answer(0, 1, 60), []int{0}},
		{two, answer(0, 3, 60), []int{0}},
		{two, answer(0, 4, 60), []int{1}},
		{two, answer(0, 6, 60), []int{1}},
		{two, answer(0, 5, 60), nil},
		{two, answer(0, 7, 60), nil},
		{two, answer(0, 8, 60), nil},
		{two, answer(0, 18, 60), nil},
		{two, answer(1, 2, 60), nil},
		{two, answer(0, 2, 9), []int{0, 1}},
		{two, answer(0, 2, 8), []int{0}},
		{two, answer(0, 2, 6), []int{0}},
		{two, answer(0, 2, 5), nil},
		{two, answer(0, 4, 8), nil},
		{two, answer(0, 2, 0), nil},
		// in some truth
		{late, answer(0, 1, 6), []int{0}},
		{late, answer(0, 1, 9), []int{0}},
		{late, answer(0, 1, 10), []int{0, 1}},
		{lost, answer(0, 1, 9), []int{0, 1}},
		{heard(lost, said(api.ShLack, 0, 0, 5)), answer(0, 1, 9), []int{1}},
		{heard(lost, said(api.ShAway, 1, 0, 30)), answer(0, 1, 60), []int{0}},
		{heard(late, said(api.ShAway, 0, 0, 7)), answer(0, 1, 8), nil},
		{heard(late, said(api.ShAway, 0, 0, 7)), answer(0, 1, 9), []int{0}},
		{far, answer(0, 1, 24), nil},
		{far, answer(0, 1, 25), []int{0}},
		{far, answer(0, 1, 28), []int{0, 1}},
	} {
		if l := must[[]int](t)(reply.Could(answered(c.b, c.a), 0)); !slices.Equal(l, c.want) {
			t.Errorf("%d: Could = %v", i, l)
		}
	}
}

// P6.2: what other answers belong to is nothing to it
func TestCouldAlone(t *testing.T) {
	b := answered(telling(steady(5, 8), 3, 6), answer(0, 3, 60), answer(0, 2, 60), answer(0, 6, 60))
	for at, want := range [][]int{{0}, {0, 1}, {1}} {
		if l := must[[]int](t)(reply.Could(b, at)); !slices.Equal(l, want) {
			t.Errorf("Could of %d = %v", at, l)
		}
	}
}

// fairly is what is told of the answers of a book: whether each one belongs to each letter, which ones are strays, and which letters wait.
type fairly struct {
	first             []int
	strays            int
	belongs           [][]int
	sure, may         []int
	mayWait, sureWait []int
}

// checkFairly checks what is told of the answers of a book.
func checkFairly(t *testing.T, name string, b api.ReBook, want fairly) {
	t.Helper()
	first, strays := mustTwo[[]int, int](t)(reply.First(b))
	if !slices.Equal(first, want.first) || strays != want.strays {
		t.Errorf("%s: First = %v, %d, not %v, %d", name, first, strays, want.first, want.strays)
	}
	for answer := range b.Answers {
		for letter := range b.Harbour.Letters {
			if how := must[int](t)(reply.Belongs(b, answer, letter)); how != want.belongs[answer][letter] {
				t.Errorf("%s: Belongs of %d, %d = %d, not %d", name, answer, letter, how, want.belongs[answer][letter])
			}
		}
	}
	if sure, may := mustTwo[[]int, []int](t)(reply.Strays(b)); !slices.Equal(sure, want.sure) || !slices.Equal(may, want.may) {
		t.Errorf("%s: Strays = %v, %v, not %v, %v", name, sure, may, want.sure, want.may)
	}
	if may, sure := mustTwo[[]int, []int](t)(reply.Waits(b)); !slices.Equal(may, want.mayWait) || !slices.Equal(sure, want.sureWait) {
		t.Errorf("%s: Waits = %v, %v, not %v, %v", name, may, sure, want.mayWait, want.sureWait)
	}
}

// P6.3, P6.4: answers with the words 1 are of the letter 0 alone, with 2 of both, with 4 of the letter 1 alone, with 8 of none
func TestFairly(t *testing.T) {
	const may, is, no = api.May, api.Must, api.Never
	two := telling(steady(5, 8), 3, 6)
	for _, c := range []struct {
		name  string
		words []int
		want  fairly
	}{
		{"no answers", nil, fairly{nil, 0, nil, nil, nil, []int{0, 1}, []int{0, 1}}},
		{"a stray", []int{8}, fairly{[]int{stray}, 1, [][]int{{no, no}}, []int{0}, []int{0}, []int{0, 1}, []int{0, 1}}},
		{"of 0", []int{1}, fairly{[]int{0}, 0, [][]int{{is, no}}, nil, nil, []int{1}, []int{1}}},
		{"of 1", []int{4}, fairly{[]int{1}, 0, [][]int{{no, is}}, nil, nil, []int{0}, []int{0}}},
		{"of one of both", []int{2}, fairly{[]int{0}, 0, [][]int{{may, may}}, nil, nil, []int{0, 1}, nil}},
		{"each of one of both", []int{2, 2}, fairly{[]int{0, 1}, 0, [][]int{{may, may}, {may, may}}, nil, nil, nil, nil}},
		{"the second one of 0", []int{2, 1}, fairly{[]int{1, 0}, 0, [][]int{{no, is}, {is, no}}, nil, nil, nil, nil}},
		{"the second one of 1", []int{2, 4}, fairly{[]int{0, 1}, 0, [][]int{{is, no}, {no, is}}, nil, nil, nil, nil}},
		{"two of 0", []int{1, 1}, fairly{[]int{0, stray}, 1, [][]int{{may, no}, {may, no}}, nil, []int{0, 1}, []int{1}, []int{1}}},
		{"two of 0, and a stray", []int{1, 8, 1}, fairly{[]int{0, stray, stray}, 2, [][]int{{may, no}, {no, no}, {may, no}}, []int{1}, []int{0, 1, 2}, []int{1}, []int{1}}},
		{"two of 0, and one of both", []int{1, 1, 2}, fairly{[]int{0, stray, 1}, 1, [][]int{{may, no}, {may, no}, {no, is}}, nil, []int{0, 1}, nil, nil}},
		{"three of both", []int{2, 2, 2}, fairly{[]int{0, 1, stray}, 1, [][]int{{may, may}, {may, may}, {may, may}}, nil, []int{0, 1, 2}, nil, nil}},
		{"both, 0 and 1", []int{2, 1, 4}, fairly{[]int{0, stray, 1}, 1, [][]int{{may, may}, {may, no}, {no, may}}, nil, []int{0, 1, 2}, nil, nil}},
		{"a stray, and one of both", []int{8, 2}, fairly{[]int{stray, 0}, 1, [][]int{{no, no}, {may, may}}, []int{0}, []int{0}, []int{0, 1}, nil}},
		{"three of 1", []int{4, 4, 4}, fairly{[]int{1, stray, stray}, 2, [][]int{{no, may}, {no, may}, {no, may}}, nil, []int{0, 1, 2}, []int{0}, []int{0}}},
		{"three strays", []int{8, 8, 16}, fairly{[]int{stray, stray, stray}, 3, [][]int{{no, no}, {no, no}, {no, no}}, []int{0, 1, 2}, []int{0, 1, 2}, []int{0, 1}, []int{0, 1}}},
	} {
		b := two
		for _, words := range c.words {
			b = answered(b, answer(0, words, 60))
		}
		checkFairly(t, c.name, b, c.want)
	}
}

// P6.3, P6.4: fair truths are of those of the harbour in which the fewest are strays
func TestFairHarbours(t *testing.T) {
	const may, is, no = api.May, api.Must, api.Never
	// one of two letters goes by alba, and comes on day 3, the other one comes by brisa on day 6; or both go by one ship
	b := telling(api.ReBook{Harbour: api.ShHarbour{
		Ports:   1,
		Ships:   []api.ShShip{vessel("alba", 0, 0, 0, 0, 3), vessel("brisa", 0, 0, 0, 0, 6)},
		Letters: []api.ShLetter{letter(0, 0, none), letter(0, 0, none)},
	}, Back: 1}, 1, 1)
	// one of the two ships sinks, as each letter may have come, but not both
	one := telling(steady(3, 6), 1, 2)
	one.Harbour.Ports, one.Harbour.Lost = 1, 1
	one.Harbour.Letters = append(one.Harbour.Letters, letter(0, 0, none))
	one.Words = append(one.Words, 4)
	one = heard(one, said(api.ShLack, 2, 0, 60))
	for _, c := range []struct {
		name string
		b    api.ReBook
		want fairly
	}{
		{"both by alba", answered(b, answer(0, 1, 4), answer(0, 1, 5)), fairly{[]int{0, 1}, 0, [][]int{{may, may}, {may, may}}, nil, nil, nil, nil}},
		{"none in time", answered(b, answer(0, 1, 3), answer(0, 1, 2)), fairly{[]int{stray, stray}, 2, [][]int{{no, no}, {no, no}}, []int{0, 1}, []int{0, 1}, []int{0, 1}, []int{0, 1}}},
		{"letter 0 by brisa", answered(heard(b, said(api.ShCame, 0, 0, 6)), answer(0, 1, 4), answer(0, 1, 7)), fairly{[]int{1, 0}, 0, [][]int{{no, is}, {is, no}}, nil, nil, nil, nil}},
		{"either sinks", answered(one, answer(0, 1, 60), answer(0, 2, 60)), fairly{[]int{0, stray}, 1, [][]int{{may, no, no}, {no, may, no}}, nil, []int{0, 1}, []int{0, 1, 2}, []int{2}}},
		{"the second one sinks", answered(one, answer(0, 1, 60)), fairly{[]int{0}, 0, [][]int{{is, no, no}}, nil, nil, []int{1, 2}, []int{1, 2}}},
		{"the first one sinks", answered(one, answer(0, 2, 60)), fairly{[]int{1}, 0, [][]int{{no, is, no}}, nil, nil, []int{0, 2}, []int{0, 2}}},
		{"a stray, and neither", answered(one, answer(0, 4, 60)), fairly{[]int{stray}, 1, [][]int{{no, no, no}}, []int{0}, []int{0}, []int{0, 1, 2}, []int{0, 1, 2}}},
	} {
		checkFairly(t, c.name, c.b, c.want)
	}
}

// P6.5
func TestCame(t *testing.T) {
	late := telling(steady(5), 1)
	late.Harbour.Ships[0].Late = api.Span{Hi: 3}
	lost := late
	lost.Harbour.Lost = 1
	two := telling(steady(3, 6), 1, 1)
	two.Harbour.Ships[0].Late, two.Harbour.Ships[1].Late, two.Harbour.Lost = api.Span{Hi: 2}, api.Span{Hi: 2}, 2
	for i, c := range []struct {
		b      api.ReBook
		letter int
		days   api.Span
		how    int
	}{
		{late, 0, api.Span{Lo: 5, Hi: 8}, api.Must},
		{answered(late, answer(0, 1, 20)), 0, api.Span{Lo: 5, Hi: 8}, api.Must},
		{answered(late, answer(0, 1, 8)), 0, api.Span{Lo: 5, Hi: 7}, api.Must},
		{answered(late, answer(0, 1, 6)), 0, api.Span{Lo: 5, Hi: 5}, api.Must},
		{answered(late, answer(0, 1, 5)), 0, api.Span{Lo: 5, Hi: 8}, api.Must},
		{answered(late, answer(0, 2, 6)), 0, api.Span{Lo: 5, Hi: 8}, api.Must},
		{lost, 0, api.Span{Lo: 5, Hi: 8}, api.May},
		{answered(lost, answer(0, 1, 20)), 0, api.Span{Lo: 5, Hi: 8}, api.Must},
		{answered(lost, answer(0, 1, 7)), 0, api.Span{Lo: 5, Hi: 6}, api.Must},
		{answered(lost, answer(0, 1, 5)), 0, api.Span{Lo: 5, Hi: 8}, api.May},
		{heard(lost, said(api.ShAway, 0, 0, 8)), 0, api.Span{}, api.Never},
		{answered(heard(lost, said(api.ShLack, 0, 0, 60)), answer(0, 1, 60)), 0, api.Span{}, api.Never},
		// an answer of either letter: the other one may have sunk
		{answered(two, answer(0, 1, 7)), 0, api.Span{Lo: 3, Hi: 5}, api.May},
		{answered(two, answer(0, 1, 7)), 1, api.Span{Lo: 6, Hi: 8}, api.May},
		{answered(two, answer(0, 1, 6)), 0, api.Span{Lo: 3, Hi: 5}, api.Must},
		{answered(two, answer(0, 1, 6)), 1, api.Span{Lo: 6, Hi: 8}, api.May},
		// both are answered, by either answer
		{answered(two, answer(0, 1, 4), answer(0, 1, 8)), 0, api.Span{Lo: 3, Hi: 3}, api.Must},
		{answered(two, answer(0, 1, 4), answer(0, 1, 8)), 1, api.Span{Lo: 6, Hi: 7}, api.Must},
		{answered(two, answer(0, 1, 7), answer(0, 1, 8)), 0, api.Span{Lo: 3, Hi: 5}, api.Must},
		{answered(two, answer(0, 1, 7), answer(0, 1, 8)), 1, api.Span{Lo: 6, Hi: 7}, api.Must},
		// two answers of which one must be a stray
		{answered(two, answer(0, 1, 4), answer(0, 1, 5)), 0, api.Span{Lo: 3, Hi: 4}, api.Must},
		{answered(two, answer(0, 1, 4), answer(0, 1, 5)), 1, api.Span{Lo: 6, Hi: 8}, api.May},
	} {
		days, how := mustTwo[api.Span, int](t)(reply.Came(c.b, c.letter))
		if days != c.days || how != c.how {
			t.Errorf("%d: Came = %v, %d", i, days, how)
		}
	}
}

// P6.6
func TestDecides(t *testing.T) {
	two := telling(steady(5, 8), 0b01011, 0b01110)
	for i, c := range []struct {
		b    api.ReBook
		want []int
	}{
		// already of one letter: what this has keeps it
		{answered(two, answer(0, 0b00001, 60)), []int{1, 3}},
		{answered(two, answer(0, 0b00010, 7)), []int{0, 3}},
		{answered(two, answer(0, 0b01011, 60)), nil},
		// of one of both
		{answered(two, answer(0, 0b00010, 60)), []int{0, 2}},
		{answered(two, answer(0, 0b01010, 60)), []int{0, 2}},
		// another answer has one of them, or may have
		{answered(two, answer(0, 0b00010, 60), answer(0, 0b00001, 60)), []int{2, 3}},
		{answered(two, answer(0, 0b00010, 60), answer(0, 0b00100, 60)), []int{0, 3}},
		{answered(two, answer(0, 0b00010, 60), answer(0, 0b00010, 60)), []int{0, 2}},
		{answered(two, answer(0, 0b00010, 60), answer(0, 0b00010, 7)), []int{2, 3}},
		// others are as good
		{answered(two, answer(0, 0b00010, 60), answer(0, 0b00001, 60), answer(0, 0b00100, 60)), nil},
		{answered(two, answer(0, 0b00010, 60), answer(0, 0b00010, 60), answer(0, 0b00010, 60)), nil},
		{answered(two, answer(0, 0b00010, 60), answer(0, 0b00001, 60), answer(0, 0b00001, 60)), []int{2, 3}},
		// a stray, whatever it names
		{answered(two, answer(0, 0b00101, 60)), nil},
		{answered(two, answer(0, 0b00010, 5)), nil},
		{answered(two, answer(1, 0b00010, 60)), nil},
		{answered(two, answer(0, 0b11111, 60)), nil},
		{answered(telling(steady(5, 8), 31, 30), answer(0, 0b10000, 60)), []int{0}},
		{answered(telling(steady(5), 31), answer(0, 0b00100, 60)), []int{0, 1, 3, 4}},
	} {
		if l := must[[]int](t)(reply.Decides(c.b, 0)); !slices.Equal(l, c.want) {
			t.Errorf("%d: Decides = %v", i, l)
		}
	}
}

// the chapter's examples
func TestExamples(t *testing.T) {
	const may, is, no = api.May, api.Must, api.Never
	if l, m := must[[]int](t)(reply.Could(example(), 0)), must[[]int](t)(reply.Could(example(), 2)); !slices.Equal(l, []int{0, 1}) || len(m) > 0 {
		t.Errorf("Could of B = %v, %v", l, m)
	}
	checkFairly(t, "B", example(), fairly{[]int{0, 1, stray}, 1, [][]int{{may, may}, {may, may}, {no, no}}, []int{2}, []int{2}, nil, nil})
	checkFairly(t, "D", less(), fairly{[]int{0, stray}, 1, [][]int{{may, may}, {no, no}}, []int{1}, []int{1}, []int{0, 1}, nil})
	checkFairly(t, "E", early(), fairly{[]int{stray, 0, stray}, 2, [][]int{{no, no}, {may, may}, {no, no}}, []int{0, 2}, []int{0, 2}, []int{0, 1}, nil})
	for letter, want := range []api.Span{{Lo: 6, Hi: 8}, {Lo: 6, Hi: 7}} {
		if days, how := mustTwo[api.Span, int](t)(reply.Came(example(), letter)); days != want || how != is {
			t.Errorf("Came of B, %d = %v, %d", letter, days, how)
		}
	}
	if l, m := must[[]int](t)(reply.Decides(example(), 0)), must[[]int](t)(reply.Decides(example(), 2)); !slices.Equal(l, []int{0, 2}) || len(m) > 0 {
		t.Errorf("Decides of B = %v, %v", l, m)
	}
	// if the answer 0 named the word 0 it would be of letter 0, and the answer 1 of letter 1
	named := example()
	named.Answers[0].Words = 3
	checkFairly(t, "B with the word 0", named, fairly{[]int{0, 1, stray}, 1, [][]int{{is, no}, {no, is}, {no, no}}, []int{2}, []int{2}, nil, nil})
}
