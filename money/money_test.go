package money_test

import (
	"math"
	"slices"
	"strings"
	"testing"

	"escribano/api"
	"escribano/money"
)

// wrong is one thing that is wrong with a list: what Check returns of it.
type wrong struct {
	name     string
	change   func(m *api.MoList)
	part, at int
	e        api.Errno
}

// aSum, aWord and aPaid are changes of the sum 1, of the word 2, which says that a sum is for a claimant, and of the payment 1.
func aSum(change func(s *api.MoSum)) func(m *api.MoList) {
	return func(m *api.MoList) { change(&m.Sums[1]) }
}

func aWord(change func(w *api.MoWord)) func(m *api.MoList) {
	return func(m *api.MoList) { change(&m.Words[2]) }
}

func aPaid(change func(p *api.MoPaid)) func(m *api.MoList) {
	return func(m *api.MoList) { change(&m.Paid[1]) }
}

// wrongs returns what can be wrong, in the order of the errors.
func wrongs() []wrong {
	return []wrong{
		{"too many claimants", func(m *api.MoList) { m.Claimants = append(m.Claimants, "d", "e") }, 1, 0, api.ErrLong},
		{"claimant", func(m *api.MoList) { m.Claimants[1] = "Ben" }, 1, 1, api.ErrForm},
		{"claimant twice", func(m *api.MoList) { m.Claimants[1] = "ana" }, 1, 1, api.ErrTwice},
		{"too many sums", func(m *api.MoList) { m.Sums = append(m.Sums, make([]api.MoSum, 3)...) }, 2, 0, api.ErrLong},
		{"name", aSum(func(s *api.MoSum) { s.Name = "2nd" }), 2, 1, api.ErrForm},
		{"name twice", aSum(func(s *api.MoSum) { s.Name = "first" }), 2, 1, api.ErrTwice},
		{"pence", aSum(func(s *api.MoSum) { s.Pence = 0 }), 2, 1, api.ErrRange},
		{"for", aSum(func(s *api.MoSum) { s.For = 8 }), 2, 1, api.ErrRange},
		{"too many words", func(m *api.MoList) { m.Words = append(m.Words, make([]api.MoWord, 3)...) }, 3, 0, api.ErrLong},
		{"says", aWord(func(w *api.MoWord) { w.Says = 4 }), 3, 2, api.ErrRange},
		{"sum", aWord(func(w *api.MoWord) { w.Sum = 3 }), 3, 2, api.ErrNone},
		{"of", aWord(func(w *api.MoWord) { w.Of = 3 }), 3, 2, api.ErrNone},
		{"back", aWord(func(w *api.MoWord) { w.Back = 4 }), 3, 2, api.ErrNone},
		{"own back", aWord(func(w *api.MoWord) { w.Back = 2 }), 3, 2, api.ErrArg},
		{"own sum", aWord(func(w *api.MoWord) { w.Says, w.Sum, w.Of = api.MoOther, 1, 1 }), 3, 2, api.ErrArg},
		{"too many payments", func(m *api.MoList) { m.Paid = append(m.Paid, make([]api.MoPaid, 3)...) }, 4, 0, api.ErrLong},
		{"paid sum", aPaid(func(p *api.MoPaid) { p.Sum = 3 }), 4, 1, api.ErrNone},
		{"paid claimant", aPaid(func(p *api.MoPaid) { p.Claimant = 3 }), 4, 1, api.ErrNone},
	}
}

// wrongClaimants returns what else can be wrong with claimants and sums, and what is not.
func wrongClaimants() []wrong {
	return []wrong{
		{"nothing", func(m *api.MoList) {}, 0, 0, api.OK},
		{"nothing there", func(m *api.MoList) { *m = api.MoList{} }, 0, 0, api.OK},
		{"empty", func(m *api.MoList) {
			*m = api.MoList{Claimants: []string{}, Sums: []api.MoSum{}, Words: []api.MoWord{}, Paid: []api.MoPaid{}}
		}, 0, 0, api.OK},
		{"four claimants", func(m *api.MoList) { m.Claimants = append(m.Claimants, "d") }, 0, 0, api.OK},
		{"five claimants, one of them none", func(m *api.MoList) { m.Claimants = append(m.Claimants, "d", "") }, 1, 0, api.ErrLong},
		{"claimant without a name", func(m *api.MoList) { m.Claimants[2] = "" }, 1, 2, api.ErrForm},
		{"long claimant", func(m *api.MoList) { m.Claimants[0] = strings.Repeat("a", 17) }, 1, 0, api.ErrForm},
		{"claimant of 16 bytes", func(m *api.MoList) { m.Claimants[0] = "a.23456789012345" }, 0, 0, api.OK},
		{"first and last claimant", func(m *api.MoList) { m.Claimants[2] = "ana" }, 1, 2, api.ErrTwice},
		{"no claimants", func(m *api.MoList) { m.Claimants = nil }, 2, 0, api.ErrRange},
		{"no claimants and no sums", func(m *api.MoList) { m.Claimants, m.Sums = nil, nil }, 3, 0, api.ErrNone},
		{"one claimant less", func(m *api.MoList) { m.Claimants = m.Claimants[:2] }, 2, 1, api.ErrRange},
		{"five sums", func(m *api.MoList) {
			m.Sums = append(m.Sums, api.MoSum{Name: "d", Pence: 1, For: 1}, api.MoSum{Name: "e", Pence: 99, For: 7})
		}, 0, 0, api.OK},
		{"six sums", func(m *api.MoList) {
			m.Sums = append(m.Sums, api.MoSum{Name: "d", Pence: 1, For: 1}, api.MoSum{Name: "e", Pence: 99, For: 7}, api.MoSum{Name: "f", Pence: 1, For: 1})
		}, 2, 0, api.ErrLong},
		{"name of a claimant", aSum(func(s *api.MoSum) { s.Name = "ben" }), 0, 0, api.OK},
		{"no name", aSum(func(s *api.MoSum) { s.Name = "" }), 2, 1, api.ErrForm},
		{"long name", aSum(func(s *api.MoSum) { s.Name = strings.Repeat("b", 17) }), 2, 1, api.ErrForm},
		{"first and last sum", func(m *api.MoList) { m.Sums[2].Name = "first" }, 2, 2, api.ErrTwice},
		{"first sum", func(m *api.MoList) { m.Sums[0].Pence = 100 }, 2, 0, api.ErrRange},
		{"one penny", aSum(func(s *api.MoSum) { s.Pence = 1 }), 0, 0, api.OK},
		{"most pence", aSum(func(s *api.MoSum) { s.Pence = 99 }), 0, 0, api.OK},
		{"too many pence", aSum(func(s *api.MoSum) { s.Pence = 100 }), 2, 1, api.ErrRange},
		{"pence below 0", aSum(func(s *api.MoSum) { s.Pence = math.MinInt }), 2, 1, api.ErrRange},
		{"far pence", aSum(func(s *api.MoSum) { s.Pence = math.MaxInt }), 2, 1, api.ErrRange},
		{"for nobody", aSum(func(s *api.MoSum) { s.For = 0 }), 2, 1, api.ErrRange},
		{"for somebody and one more", aSum(func(s *api.MoSum) { s.For = 9 }), 2, 1, api.ErrRange},
		{"for all", aSum(func(s *api.MoSum) { s.For = 7 }), 0, 0, api.OK},
		{"for below 0", aSum(func(s *api.MoSum) { s.For = -1 }), 2, 1, api.ErrRange},
		{"far for below 0", aSum(func(s *api.MoSum) { s.For = math.MinInt }), 2, 1, api.ErrRange},
		{"far for", aSum(func(s *api.MoSum) { s.For = math.MaxInt }), 2, 1, api.ErrRange},
		{"for one of four", func(m *api.MoList) { m.Claimants = append(m.Claimants, "d"); m.Sums[1].For = 8 }, 0, 0, api.OK},
		{"for one of five", func(m *api.MoList) { m.Claimants = append(m.Claimants, "d"); m.Sums[1].For = 16 }, 2, 1, api.ErrRange},
	}
}

// wrongWords returns what else can be wrong with words and payments, and what is not.
func wrongWords() []wrong {
	return []wrong{
		{"no words", func(m *api.MoList) { m.Words = nil }, 0, 0, api.OK},
		{"six words, the last one its own back", func(m *api.MoList) { m.Words = append(m.Words, is(0, 0), late(back(not(0, 2), 5))) }, 3, 5, api.ErrArg},
		{"six words", func(m *api.MoList) { m.Words = append(m.Words, back(is(0, 0), 5), late(back(not(0, 2), 4))) }, 0, 0, api.OK},
		{"seven words", func(m *api.MoList) { m.Words = append(m.Words, is(0, 0), is(0, 0), is(0, 0)) }, 3, 0, api.ErrLong},
		{"says below 0", aWord(func(w *api.MoWord) { w.Says = -1 }), 3, 2, api.ErrRange},
		{"far says", aWord(func(w *api.MoWord) { w.Says = math.MaxInt }), 3, 2, api.ErrRange},
		{"far says below 0", aWord(func(w *api.MoWord) { w.Says = math.MinInt }), 3, 2, api.ErrRange},
		{"sum below 0", aWord(func(w *api.MoWord) { w.Sum = -1 }), 3, 2, api.ErrNone},
		{"far sum", aWord(func(w *api.MoWord) { w.Sum = math.MaxInt }), 3, 2, api.ErrNone},
		{"of below 0", aWord(func(w *api.MoWord) { w.Of = -1 }), 3, 2, api.ErrNone},
		{"far of", aWord(func(w *api.MoWord) { w.Of = math.MinInt }), 3, 2, api.ErrNone},
		{"of a fourth claimant, not of a sum", func(m *api.MoList) { m.Claimants = append(m.Claimants, "d"); m.Words[2].Of = 3 }, 0, 0, api.OK},
		{"of a fourth claimant, who is no sum", func(m *api.MoList) { m.Claimants = append(m.Claimants, "d"); m.Words[0].Of = 3 }, 3, 0, api.ErrNone},
		{"of a fourth sum, that is no claimant", func(m *api.MoList) {
			m.Sums = append(m.Sums, api.MoSum{Name: "d", Pence: 1, For: 1})
			m.Words[2].Of = 3
		}, 3, 2, api.ErrNone},
		{"of a fourth sum", func(m *api.MoList) {
			m.Sums = append(m.Sums, api.MoSum{Name: "d", Pence: 1, For: 1})
			m.Words[0].Of = 3
		}, 0, 0, api.OK},
		{"a claimant with the number of the sum", aWord(func(w *api.MoWord) { w.Sum, w.Of = 1, 1 }), 0, 0, api.OK},
		{"not a claimant with the number of the sum", aWord(func(w *api.MoWord) { w.Says, w.Sum, w.Of = api.MoNot, 1, 1 }), 0, 0, api.OK},
		{"the same sum", aWord(func(w *api.MoWord) { w.Says, w.Sum, w.Of = api.MoSame, 1, 1 }), 3, 2, api.ErrArg},
		{"a claimant whom the sum is not for", aWord(func(w *api.MoWord) { w.Sum, w.Of = 0, 2 }), 0, 0, api.OK},
		{"back below none", aWord(func(w *api.MoWord) { w.Back = -2 }), 3, 2, api.ErrNone},
		{"far back", aWord(func(w *api.MoWord) { w.Back = math.MaxInt }), 3, 2, api.ErrNone},
		{"far back below none", aWord(func(w *api.MoWord) { w.Back = math.MinInt }), 3, 2, api.ErrNone},
		{"no back", aWord(func(w *api.MoWord) { w.Back = none }), 0, 0, api.OK},
		{"a later one back", aWord(func(w *api.MoWord) { w.Back = 3 }), 0, 0, api.OK},
		{"each other back", func(m *api.MoList) { m.Words[1].Back, m.Words[2].Back = 2, 1 }, 0, 0, api.OK},
		{"first word", func(m *api.MoList) { m.Words[0].Back = 0 }, 3, 0, api.ErrArg},
		{"no payments", func(m *api.MoList) { m.Paid = nil }, 0, 0, api.OK},
		{"five payments", func(m *api.MoList) { m.Paid = append(m.Paid, paid(0, 2), paid(0, 2)) }, 0, 0, api.OK},
		{"six payments", func(m *api.MoList) { m.Paid = append(m.Paid, paid(0, 2), paid(0, 2), paid(0, 2)) }, 4, 0, api.ErrLong},
		{"paid sum below 0", aPaid(func(p *api.MoPaid) { p.Sum = -1 }), 4, 1, api.ErrNone},
		{"far paid sum", aPaid(func(p *api.MoPaid) { p.Sum = math.MaxInt }), 4, 1, api.ErrNone},
		{"paid claimant below 0", aPaid(func(p *api.MoPaid) { p.Claimant = -1 }), 4, 1, api.ErrNone},
		{"far paid claimant", aPaid(func(p *api.MoPaid) { p.Claimant = math.MinInt }), 4, 1, api.ErrNone},
		{"paid to a fourth claimant", func(m *api.MoList) { m.Claimants = append(m.Claimants, "d"); m.Paid[1].Claimant = 3 }, 0, 0, api.OK},
		{"fourth sum paid", func(m *api.MoList) { m.Claimants = append(m.Claimants, "d"); m.Paid[1].Sum = 3 }, 4, 1, api.ErrNone},
		{"paid to somebody the sum is not for", func(m *api.MoList) { m.Paid[0] = paid(0, 2) }, 0, 0, api.OK},
		{"payments of nothing", func(m *api.MoList) { *m = paying(api.MoList{Claimants: []string{"a"}}, paid(0, 0)) }, 4, 0, api.ErrNone},
	}
}

// P7.1: each error, which all functions return first
func TestCheckEach(t *testing.T) {
	for _, w := range slices.Concat(wrongs(), wrongClaimants(), wrongWords()) {
		m := exampleP()
		w.change(&m)
		part, at, e := money.Check(m)
		if part != w.part || at != w.at || e != w.e {
			t.Errorf("%s: Check = %d, %d, %d", w.name, part, at, e)
		}
		if got := errors(m, 9, -1); e != api.OK && got != allErrors(e) {
			t.Errorf("%s: errors %v", w.name, got)
		}
	}
}

// P7.1, P1: of two errors the one that is named first, and of two things with an error the first one
func TestCheckFirst(t *testing.T) {
	all := wrongs()
	for i, w := range all {
		for _, x := range all[i+1:] {
			m := exampleP()
			x.change(&m)
			w.change(&m)
			if part, at, e := money.Check(m); part != w.part || at != w.at || e != w.e {
				t.Errorf("%s, and %s: Check = %d, %d, %d", w.name, x.name, part, at, e)
			}
		}
	}
	for _, c := range []wrong{
		{"claimants", func(m *api.MoList) { m.Claimants[1], m.Claimants[2] = "ana", "" }, 1, 1, api.ErrTwice},
		{"sums", func(m *api.MoList) { m.Sums[0].For, m.Sums[1].Name = 0, "" }, 2, 0, api.ErrRange},
		{"sums of one name", func(m *api.MoList) { m.Sums[1].Name, m.Sums[2].Name = "first", "" }, 2, 1, api.ErrTwice},
		{"claimant and sum", func(m *api.MoList) { m.Claimants[2], m.Sums[0].Name = "ana", "" }, 1, 2, api.ErrTwice},
		{"words", func(m *api.MoList) { m.Words[0].Back, m.Words[1].Says = 0, 4 }, 3, 0, api.ErrArg},
		{"back and says", func(m *api.MoList) { m.Words[1].Back, m.Words[2].Says = 4, 4 }, 3, 1, api.ErrNone},
		{"sum and word", func(m *api.MoList) { m.Sums[2].Pence, m.Words[0].Says = 0, 4 }, 2, 2, api.ErrRange},
		{"payments", func(m *api.MoList) { m.Paid[1].Sum, m.Paid[0].Claimant = 3, 3 }, 4, 0, api.ErrNone},
		{"word and payment", func(m *api.MoList) { m.Words[3].Back, m.Paid[0].Sum = 3, 3 }, 3, 3, api.ErrArg},
	} {
		m := exampleP()
		c.change(&m)
		if part, at, e := money.Check(m); part != c.part || at != c.at || e != c.e {
			t.Errorf("%s: Check = %d, %d, %d", c.name, part, at, e)
		}
	}
}

// P7.2 to P7.6, P1: the errors behind that of Check, in their order
func TestErrors(t *testing.T) {
	const ok, no, zero, down = api.OK, api.ErrNone, api.ErrZero, api.ErrDown
	never := plain(3, []int{3, 6}, is(0, 2), late(is(0, 1)))
	for i, c := range []struct {
		m             api.MoList
		sum, claimant int
		want          [8]api.Errno
	}{
		{example(), 0, 0, [8]api.Errno{}},
		{example(), 2, 2, [8]api.Errno{2: down}},
		{example(), 3, 2, [8]api.Errno{1: no, 2: no}},
		{example(), -1, 2, [8]api.Errno{1: no, 2: no}},
		{example(), 2, 3, [8]api.Errno{2: down, 5: no}},
		{example(), 0, -1, [8]api.Errno{5: no}},
		{example(), math.MaxInt, math.MinInt, [8]api.Errno{1: no, 2: no, 5: no}},
		{example(), math.MinInt, math.MaxInt, [8]api.Errno{1: no, 2: no, 5: no}},
		// a claimant more than sums, and a sum more than claimants
		{plain(2, []int{1}), 0, 1, [8]api.Errno{}},
		{plain(2, []int{1}), 1, 1, [8]api.Errno{1: no, 2: no}},
		{plain(1, []int{1, 1}), 1, 0, [8]api.Errno{}},
		{plain(1, []int{1, 1}), 1, 1, [8]api.Errno{5: no}},
		{api.MoList{}, 0, 0, [8]api.Errno{1: no, 2: no, 5: no}},
		// no truth, behind what is no index
		{never, 0, 0, allErrors(zero)},
		{never, 2, 0, [8]api.Errno{zero, no, no, zero, zero, zero, zero, zero}},
		{never, 0, 3, [8]api.Errno{zero, zero, zero, zero, zero, no, zero, zero}},
		{never, -1, -1, [8]api.Errno{zero, no, no, zero, zero, no, zero, zero}},
		// words that decide nothing
		{plain(3, []int{3}, late(not(0, 2))), 0, 0, [8]api.Errno{ok, ok, down, ok, down, ok, ok, ok}},
	} {
		if got := errors(c.m, c.sum, c.claimant); got != c.want {
			t.Errorf("%d: errors %v", i, got)
		}
	}
}

// P7.2 to P7.6, R2: with an error every other result is its zero value
func TestZeroWithError(t *testing.T) {
	bad := exampleP()
	bad.Paid[2].Sum = 9
	never := exampleP()
	never.Words[2] = is(2, 1)
	stuck := plain(3, []int{6, 7}, late(is(1, 2)))
	for i, c := range []struct {
		m             api.MoList
		sum, claimant int
	}{{bad, 1, 1}, {never, 1, 1}, {exampleP(), 3, 3}, {stuck, 0, 0}} {
		first, many, e := money.First(c.m)
		who, f := money.For(c.m, c.sum)
		pay, g := money.Pay(c.m, c.sum)
		held, h := money.Held(c.m)
		wait, j := money.Wait(c.m)
		owed, k := money.Owed(c.m, c.claimant)
		sure, all, l := money.Need(c.m)
		out, n := money.Wrong(c.m)
		if g == api.OK {
			t.Errorf("%d: Pay = %d", i, pay)
		}
		for at, r := range []struct {
			e    api.Errno
			zero bool
		}{{e, len(first) == 0 && many == 0}, {f, len(who) == 0}, {g, pay == 0}, {h, len(held) == 0}, {j, len(wait) == 0}, {k, owed == api.Span{}}, {l, sure == 0 && all == 0}, {n, len(out) == 0}} {
			if r.e != api.OK && !r.zero {
				t.Errorf("%d: the result %d has the error %d", i, at, r.e)
			}
		}
	}
}

// told is a list, its first truth, how many there are, and whom each sum can be for.
type told struct {
	m     api.MoList
	first []int
	many  int
	who   [][]int
}

// check checks what is told.
func (c told) check(t *testing.T, i int) {
	t.Helper()
	a := ask(t, c.m)
	if !slices.Equal(a.first, c.first) || a.many != c.many {
		t.Errorf("%d: First = %v, %d", i, a.first, a.many)
	}
	var held []int
	for sum, who := range c.who {
		pay := -1
		if len(who) == 1 {
			pay = who[0]
		} else {
			held = append(held, sum)
		}
		if !slices.Equal(a.who[sum], who) || a.pay[sum] != pay {
			t.Errorf("%d: For of %d = %v, Pay = %d", i, sum, a.who[sum], a.pay[sum])
		}
	}
	if !slices.Equal(a.held, held) || len(a.who) != len(c.who) {
		t.Errorf("%d: Held = %v", i, a.held)
	}
}

// P7.2, P7.3: what words of each kind say
func TestWhatWordsSay(t *testing.T) {
	for i, c := range []told{
		{api.MoList{}, nil, 1, nil},
		{plain(4, nil), nil, 1, nil},
		{plain(1, []int{1}), []int{0}, 1, [][]int{{0}}},
		{plain(4, []int{8}), []int{3}, 1, [][]int{{3}}},
		{plain(4, []int{10}), []int{1}, 2, [][]int{{1, 3}}},
		{plain(2, []int{3, 3}), []int{0, 0}, 4, [][]int{{0, 1}, {0, 1}}},
		{plain(3, []int{6, 3}), []int{1, 0}, 4, [][]int{{1, 2}, {0, 1}}},
		{plain(2, []int{3, 3}, is(0, 1)), []int{1, 0}, 2, [][]int{{1}, {0, 1}}},
		{plain(2, []int{3, 3}, is(1, 0)), []int{0, 0}, 2, [][]int{{0, 1}, {0}}},
		{plain(2, []int{3, 3}, not(0, 0)), []int{1, 0}, 2, [][]int{{1}, {0, 1}}},
		{plain(3, []int{7}, not(0, 1)), []int{0}, 2, [][]int{{0, 2}}},
		{plain(3, []int{5}, not(0, 1)), []int{0}, 2, [][]int{{0, 2}}},
		{plain(2, []int{3, 3}, same(0, 1)), []int{0, 0}, 2, [][]int{{0, 1}, {0, 1}}},
		{plain(2, []int{3, 3}, same(1, 0)), []int{0, 0}, 2, [][]int{{0, 1}, {0, 1}}},
		{plain(2, []int{3, 3}, other(0, 1)), []int{0, 1}, 2, [][]int{{0, 1}, {0, 1}}},
		{plain(2, []int{3, 3}, other(1, 0)), []int{0, 1}, 2, [][]int{{0, 1}, {0, 1}}},
		{plain(3, []int{3, 6}, same(0, 1)), []int{1, 1}, 1, [][]int{{1}, {1}}},
		{plain(3, []int{3, 2}, other(0, 1)), []int{0, 1}, 1, [][]int{{0}, {1}}},
		{plain(3, []int{3, 6}, other(0, 1)), []int{0, 1}, 3, [][]int{{0, 1}, {1, 2}}},
		// words of one claimant and of sums that have the same numbers
		{plain(3, []int{7, 7, 7}, is(0, 1)), []int{1, 0, 0}, 9, [][]int{{1}, {0, 1, 2}, {0, 1, 2}}},
		{plain(3, []int{7, 7, 7}, same(0, 1), other(2, 1)), []int{0, 0, 1}, 6, [][]int{{0, 1, 2}, {0, 1, 2}, {0, 1, 2}}},
		{plain(3, []int{7, 7, 7}, other(0, 1), other(2, 1), other(0, 2), not(0, 0)), []int{1, 0, 2}, 4, [][]int{{1, 2}, {0, 1, 2}, {0, 1, 2}}},
		// one by way of others
		{plain(4, []int{15, 15, 15, 15}, same(3, 0), same(1, 3), same(0, 2), is(2, 3)), []int{3, 3, 3, 3}, 1, [][]int{{3}, {3}, {3}, {3}}},
		{plain(2, []int{3, 3, 3, 3, 3}, other(0, 1), other(1, 2), other(2, 3), other(3, 4), not(4, 0)), []int{1, 0, 1, 0, 1}, 1, [][]int{{1}, {0}, {1}, {0}, {1}}},
		// the first truth is not the first claimant of each sum
		{plain(3, []int{7, 3, 4}, same(0, 2)), []int{2, 0, 2}, 2, [][]int{{2}, {0, 1}, {2}}},
		{plain(4, []int{15, 15, 15, 15, 15}), []int{0, 0, 0, 0, 0}, 1024, [][]int{{0, 1, 2, 3}, {0, 1, 2, 3}, {0, 1, 2, 3}, {0, 1, 2, 3}, {0, 1, 2, 3}}},
	} {
		c.check(t, i)
	}
}

// P7.2, P7.3: which words count
func TestWhichWordsCount(t *testing.T) {
	both, none, one := [][]int{{0, 1}}, [][]int{{0}}, [][]int{{1}}
	for i, c := range []struct {
		words []api.MoWord
		who   [][]int
	}{
		{nil, both},
		{[]api.MoWord{late(is(0, 0))}, both},
		{[]api.MoWord{is(0, 0)}, none},
		// taken back, by one ahead of it, by one that has not come, and by a word that says the same
		{[]api.MoWord{is(0, 0), back(is(0, 1), 0)}, one},
		{[]api.MoWord{back(is(0, 1), 1), is(0, 0)}, one},
		{[]api.MoWord{is(0, 0), late(back(is(0, 1), 0))}, none},
		{[]api.MoWord{is(0, 0), back(is(0, 0), 0)}, none},
		{[]api.MoWord{is(0, 0), back(not(0, 3), 0)}, both},
		// what has not come is taken back
		{[]api.MoWord{late(is(0, 0)), back(not(0, 3), 0)}, both},
		{[]api.MoWord{late(is(0, 0)), back(is(0, 1), 0)}, one},
		// what takes back is taken back itself: both do not count
		{[]api.MoWord{is(0, 0), back(is(0, 1), 0), back(not(0, 3), 1)}, both},
		{[]api.MoWord{is(0, 0), back(not(0, 3), 0), back(is(0, 1), 1)}, one},
		{[]api.MoWord{is(0, 0), back(is(0, 1), 0), late(back(not(0, 3), 1))}, one},
		{[]api.MoWord{back(is(0, 1), 2), back(not(0, 3), 0), is(0, 0)}, both},
		// each other
		{[]api.MoWord{back(is(0, 0), 1), back(is(0, 1), 0)}, both},
		{[]api.MoWord{back(is(0, 0), 1), late(back(is(0, 1), 0))}, none},
		{[]api.MoWord{back(is(0, 0), 1), back(is(0, 1), 2), back(is(0, 0), 0)}, both},
		{[]api.MoWord{back(is(0, 0), 1), back(is(0, 1), 0), is(0, 0)}, none},
		// one by two, and the word that is left counts
		{[]api.MoWord{is(0, 0), back(not(0, 2), 0), back(is(0, 1), 0)}, one},
		{[]api.MoWord{is(0, 0), is(0, 0), back(not(0, 2), 0)}, none},
		{[]api.MoWord{is(0, 0), is(0, 1), back(not(0, 2), 0)}, one},
	} {
		m := plain(4, []int{3}, c.words...)
		told{m, []int{c.who[0][0]}, len(c.who[0]), c.who}.check(t, i)
	}
}

// P7.2 to P7.6: what has no truth
func TestNoTruth(t *testing.T) {
	for i, m := range []api.MoList{
		plain(2, []int{1}, is(0, 1)),
		plain(2, []int{1}, not(0, 0)),
		plain(2, []int{3}, not(0, 0), not(0, 1)),
		plain(2, []int{3}, is(0, 0), is(0, 1)),
		plain(2, []int{3}, is(0, 1), not(0, 1)),
		plain(2, []int{1, 2}, same(1, 0)),
		plain(2, []int{1, 1}, other(0, 1)),
		plain(2, []int{3, 3}, same(0, 1), other(1, 0)),
		plain(2, []int{3, 3, 3}, other(0, 1), other(1, 2), other(2, 0)),
		plain(2, []int{3, 3, 3}, same(0, 1), same(1, 2), is(0, 0), not(2, 0)),
		// a word that would take another one back
		plain(2, []int{3}, is(0, 0), is(0, 1), late(back(not(0, 1), 1))),
	} {
		if part, at, e := money.Check(m); part != 0 || at != 0 || e != api.OK {
			t.Errorf("%d: Check = %d, %d, %d", i, part, at, e)
		}
		if got := errors(m, 0, 0); got != allErrors(api.ErrZero) {
			t.Errorf("%d: errors %v", i, got)
		}
	}
}

// P7.4
func TestWait(t *testing.T) {
	for i, c := range []struct {
		m    api.MoList
		want []int
		e    api.Errno
	}{
		{api.MoList{}, nil, api.OK},
		{plain(2, []int{2, 1}), nil, api.OK},
		{plain(2, []int{2, 1}, late(is(0, 1))), nil, api.OK},
		{plain(2, []int{3}), nil, api.ErrDown},
		{plain(2, []int{3}, not(0, 0)), nil, api.OK},
		{plain(2, []int{3}, late(not(0, 0))), []int{0}, api.OK},
		{plain(3, []int{7}, late(not(0, 0))), nil, api.ErrDown},
		{plain(3, []int{7}, late(not(0, 0)), late(not(0, 1))), []int{0, 1}, api.OK},
		// several ways
		{plain(3, []int{7}, late(not(0, 0)), late(not(0, 1)), late(not(0, 2))), []int{0, 1}, api.OK},
		{plain(3, []int{7}, late(not(0, 0)), late(not(0, 1)), late(is(0, 2))), []int{2}, api.OK},
		{plain(3, []int{7}, late(is(0, 1)), late(is(0, 2))), []int{0}, api.OK},
		{plain(2, []int{3, 3, 3}, late(is(1, 0)), late(same(0, 1)), late(is(0, 1)), late(other(1, 2)), late(is(2, 0))), []int{0, 1, 3}, api.OK},
		{plain(2, []int{3, 3, 3}, late(same(0, 1)), other(1, 2), late(is(2, 0))), []int{0, 2}, api.OK},
		// what came already
		{plain(3, []int{7}, not(0, 0), late(not(0, 0)), late(not(0, 1))), []int{2}, api.OK},
		// words with which there would be no truth
		{plain(2, []int{1, 3}, late(is(0, 1)), late(is(1, 1))), []int{1}, api.OK},
		{plain(2, []int{1, 3}, late(is(0, 1))), nil, api.ErrDown},
		{plain(2, []int{3, 3}, same(0, 1), late(other(0, 1)), late(is(1, 1))), []int{2}, api.OK},
		{plain(2, []int{3}, late(is(0, 0)), late(is(0, 1))), []int{0}, api.OK},
		// words that take others back
		{plain(2, []int{3}, late(back(is(0, 1), 1)), not(0, 1)), nil, api.OK},
		{plain(3, []int{7}, not(0, 0), late(back(not(0, 1), 0)), late(not(0, 1))), []int{2}, api.OK},
		{plain(3, []int{7}, not(0, 0), late(back(not(0, 1), 0)), late(not(0, 2))), []int{2}, api.OK},
		{plain(3, []int{7}, not(0, 0), late(back(not(0, 1), 0)), late(back(not(0, 2), 0))), []int{1, 2}, api.OK},
		{plain(3, []int{7}, late(is(0, 0)), late(back(not(0, 1), 0)), not(0, 1)), []int{0}, api.OK},
		// a word that was taken back ahead of coming
		{plain(2, []int{3}, late(is(0, 0)), back(not(0, 0), 0)), nil, api.OK},
		{plain(3, []int{7}, late(is(0, 0)), back(not(0, 0), 0), late(not(0, 1))), []int{2}, api.OK},
		{plain(3, []int{3}, late(is(0, 0)), back(not(0, 2), 0)), nil, api.ErrDown},
		{plain(3, []int{3}, late(is(0, 0)), back(not(0, 2), 0), late(is(0, 1))), []int{2}, api.OK},
		{plain(3, []int{3}, late(back(is(0, 0), 1)), late(back(is(0, 1), 0))), []int{0}, api.OK},
		{plain(2, []int{3, 3}, late(is(0, 0)), back(not(1, 0), 0), late(is(0, 0))), []int{2}, api.OK},
	} {
		if l, e := money.Wait(c.m); !slices.Equal(l, c.want) || e != c.e {
			t.Errorf("%d: Wait = %v, %d", i, l, e)
		}
	}
}

// P7.5: sums are of 1, 2, 4, 8 and 16 pence
func TestOwed(t *testing.T) {
	for i, c := range []struct {
		m    api.MoList
		want []api.Span
	}{
		{plain(2, nil), []api.Span{{}, {}}},
		{plain(2, []int{1}), []api.Span{{Lo: 1, Hi: 1}, {}}},
		{plain(2, []int{3}), []api.Span{{Hi: 1}, {Hi: 1}}},
		{plain(3, []int{3, 3}), []api.Span{{Hi: 3}, {Hi: 3}, {}}},
		{plain(2, []int{1, 3}), []api.Span{{Lo: 1, Hi: 3}, {Hi: 2}}},
		{plain(2, []int{3, 3}, other(0, 1)), []api.Span{{Lo: 1, Hi: 2}, {Lo: 1, Hi: 2}}},
		{plain(2, []int{3, 3}, same(0, 1)), []api.Span{{Hi: 3}, {Hi: 3}}},
		{plain(3, []int{7, 7, 7}, other(0, 1), other(1, 2), other(0, 2)), []api.Span{{Lo: 1, Hi: 4}, {Lo: 1, Hi: 4}, {Lo: 1, Hi: 4}}},
		{plain(3, []int{7, 7, 7}, other(0, 1), other(1, 2), other(0, 2), not(2, 0)), []api.Span{{Lo: 1, Hi: 2}, {Lo: 1, Hi: 4}, {Lo: 1, Hi: 4}}},
		{plain(2, []int{3, 3, 3}, is(1, 0), other(1, 2)), []api.Span{{Lo: 2, Hi: 3}, {Lo: 4, Hi: 5}}},
		{plain(4, []int{15, 15, 15, 15, 15}), []api.Span{{Hi: 31}, {Hi: 31}, {Hi: 31}, {Hi: 31}}},
		// payments change nothing
		{paying(plain(2, []int{3}), paid(0, 0), paid(0, 1)), []api.Span{{Hi: 1}, {Hi: 1}}},
	} {
		for claimant, want := range c.want {
			if s := must[api.Span](t)(money.Owed(c.m, claimant)); s != want {
				t.Errorf("%d: Owed of %d = %v", i, claimant, s)
			}
		}
	}
}

// P7.5: sums are of 1, 2, 4, 8 and 16 pence
func TestNeed(t *testing.T) {
	three := plain(2, []int{3, 1, 2})
	for i, c := range []struct {
		m         api.MoList
		sure, all int
	}{
		{api.MoList{}, 0, 0},
		{plain(2, []int{1}), 1, 1},
		{plain(2, []int{3}), 0, 1},
		{three, 6, 7},
		{paying(three, paid(0, 0)), 6, 6},
		{paying(three, paid(1, 0)), 4, 5},
		{paying(three, paid(1, 1), paid(1, 0)), 4, 5},
		{paying(three, paid(2, 1), paid(0, 1)), 2, 2},
		{paying(three, paid(2, 1), paid(0, 1), paid(1, 0)), 0, 0},
		{with(three, is(0, 0)), 7, 7},
		{with(three, late(is(0, 0))), 6, 7},
		{with(paying(three, paid(0, 1)), is(0, 0)), 6, 6},
	} {
		if sure, all := mustTwo[int, int](t)(money.Need(c.m)); sure != c.sure || all != c.all {
			t.Errorf("%d: Need = %d, %d", i, sure, all)
		}
	}
}

// P7.6
func TestWrong(t *testing.T) {
	two := plain(2, []int{3, 3}, other(0, 1))
	sure := plain(3, []int{1, 6})
	for i, c := range []struct {
		m        api.MoList
		payments []api.MoPaid
		want     []int
	}{
		{two, nil, nil},
		{two, []api.MoPaid{paid(0, 0)}, nil},
		{two, []api.MoPaid{paid(0, 0), paid(1, 1)}, nil},
		{two, []api.MoPaid{paid(1, 0), paid(0, 1)}, nil},
		// no truth has both
		{two, []api.MoPaid{paid(0, 0), paid(1, 0)}, []int{0}},
		{two, []api.MoPaid{paid(0, 1), paid(1, 1)}, []int{0}},
		// a sum twice, to one claimant, or to two
		{two, []api.MoPaid{paid(0, 0), paid(0, 0)}, []int{0}},
		{two, []api.MoPaid{paid(0, 0), paid(0, 1)}, []int{0}},
		{two, []api.MoPaid{paid(0, 0), paid(0, 1), paid(1, 1)}, []int{1}},
		{two, []api.MoPaid{paid(0, 1), paid(1, 1), paid(0, 0)}, []int{0}},
		{two, []api.MoPaid{paid(0, 0), paid(1, 0), paid(1, 1)}, []int{1}},
		{two, []api.MoPaid{paid(0, 0), paid(1, 0), paid(0, 0), paid(1, 0)}, []int{0, 1, 2}},
		{two, []api.MoPaid{paid(0, 0), paid(0, 0), paid(0, 0), paid(0, 0), paid(0, 0)}, []int{0, 1, 2, 3}},
		{two, []api.MoPaid{paid(0, 0), paid(0, 0), paid(0, 1), paid(1, 0), paid(1, 0)}, []int{0, 1, 3}},
		// somebody whom a sum is not for
		{sure, []api.MoPaid{paid(0, 0), paid(1, 1)}, nil},
		{sure, []api.MoPaid{paid(0, 1)}, []int{0}},
		{sure, []api.MoPaid{paid(1, 2), paid(1, 0), paid(0, 0)}, []int{1}},
		{sure, []api.MoPaid{paid(0, 2), paid(1, 0)}, []int{0, 1}},
		// the truth that is right for most
		{plain(3, []int{7, 7, 7}, same(0, 1), same(1, 2)), []api.MoPaid{paid(0, 0), paid(1, 1), paid(2, 1)}, []int{0}},
		{plain(3, []int{7, 7, 7}, same(0, 1), same(1, 2)), []api.MoPaid{paid(0, 0), paid(1, 0), paid(2, 1)}, []int{2}},
		{plain(3, []int{7, 7, 7}, same(0, 1), same(1, 2)), []api.MoPaid{paid(0, 2), paid(1, 0), paid(2, 1)}, []int{0, 1}},
	} {
		if l := must[[]int](t)(money.Wrong(paying(c.m, c.payments...))); !slices.Equal(l, c.want) {
			t.Errorf("%d: Wrong = %v", i, l)
		}
	}
}

// the chapter's examples
func TestExamples(t *testing.T) {
	m, p := example(), exampleP()
	told{m, []int{1, 1, 0}, 2, [][]int{{1}, {1}, {0, 2}}}.check(t, 0)
	if l := must[[]int](t)(money.Wait(m)); !slices.Equal(l, []int{2}) {
		t.Errorf("Wait = %v", l)
	}
	for claimant, want := range []api.Span{{Lo: 0, Hi: 15}, {Lo: 50, Hi: 50}, {Lo: 0, Hi: 15}} {
		if s := must[api.Span](t)(money.Owed(m, claimant)); s != want {
			t.Errorf("Owed of %d = %v", claimant, s)
		}
	}
	if sure, all := mustTwo[int, int](t)(money.Need(m)); sure != 50 || all != 65 {
		t.Errorf("Need of M = %d, %d", sure, all)
	}
	if sure, all := mustTwo[int, int](t)(money.Need(p)); sure != 30 || all != 30 {
		t.Errorf("Need of P = %d, %d", sure, all)
	}
	if l := must[[]int](t)(money.Wrong(p)); !slices.Equal(l, []int{0}) {
		t.Errorf("Wrong = %v", l)
	}
	// if the word 3 had come
	told{came(m, 3), []int{0, 1, 0}, 6, [][]int{{0, 1}, {1, 2}, {0, 2}}}.check(t, 1)
}
