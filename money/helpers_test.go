package money_test

import (
	"math/rand/v2"
	"slices"
	"testing"

	"escribano/api"
	"escribano/money"
)

// none is no word.
const none = api.MoNone

// is, not, same and other are words that came, and take none back.
func is(sum, claimant int) api.MoWord { return word(api.MoIs, sum, claimant) }

func not(sum, claimant int) api.MoWord { return word(api.MoNot, sum, claimant) }

func same(sum, of int) api.MoWord { return word(api.MoSame, sum, of) }

func other(sum, of int) api.MoWord { return word(api.MoOther, sum, of) }

func word(says, sum, of int) api.MoWord {
	return api.MoWord{Says: says, Sum: sum, Of: of, Back: none, Came: true}
}

// late is a word that has not come, and back one that takes another one back.
func late(w api.MoWord) api.MoWord {
	w.Came = false
	return w
}

func back(w api.MoWord, of int) api.MoWord {
	w.Back = of
	return w
}

// paid is a payment.
func paid(sum, claimant int) api.MoPaid { return api.MoPaid{Sum: sum, Claimant: claimant} }

// example is M of the document's examples, with payments.
func example(payments ...api.MoPaid) api.MoList {
	return api.MoList{
		Claimants: []string{"ana", "ben", "cora"},
		Sums:      []api.MoSum{{Name: "first", Pence: 20, For: 3}, {Name: "second", Pence: 30, For: 6}, {Name: "third", Pence: 15, For: 7}},
		Words:     []api.MoWord{same(0, 1), not(2, 1), late(is(2, 2)), late(back(other(0, 1), 0))},
		Paid:      payments,
	}
}

// exampleP is P of the document's examples.
func exampleP() api.MoList { return example(paid(0, 0), paid(0, 1), paid(2, 2)) }

// called returns a name for each index.
func called(at int) string { return string(rune('a' + at)) }

// plain is a list of so many claimants, and of sums of 1, 2, 4, 8 and 16 pence that are for these ones.
func plain(claimants int, who []int, words ...api.MoWord) api.MoList {
	m := api.MoList{Words: words}
	for at := range claimants {
		m.Claimants = append(m.Claimants, called(at))
	}
	for at, bits := range who {
		m.Sums = append(m.Sums, api.MoSum{Name: called(at), Pence: 1 << at, For: bits})
	}
	return m
}

// cloned is a list that shares no memory with m; sameList reports whether two lists are equal.
func cloned(m api.MoList) api.MoList {
	m.Claimants, m.Sums = slices.Clone(m.Claimants), slices.Clone(m.Sums)
	m.Words, m.Paid = slices.Clone(m.Words), slices.Clone(m.Paid)
	return m
}

func sameList(a, b api.MoList) bool {
	return slices.Equal(a.Claimants, b.Claimants) && slices.Equal(a.Sums, b.Sums) && slices.Equal(a.Words, b.Words) && slices.Equal(a.Paid, b.Paid)
}

// with is a list with one more word, came one in which some words have come, and gone one in which a word has not.
func with(m api.MoList, w api.MoWord) api.MoList {
	m.Words = append(slices.Clone(m.Words), w)
	return m
}

func came(m api.MoList, words ...int) api.MoList {
	m.Words = slices.Clone(m.Words)
	for _, at := range words {
		m.Words[at].Came = true
	}
	return m
}

func gone(m api.MoList, word int) api.MoList {
	m.Words = slices.Clone(m.Words)
	m.Words[word].Came = false
	return m
}

// paying is a list with other payments.
func paying(m api.MoList, payments ...api.MoPaid) api.MoList {
	m.Paid = payments
	return m
}

// unpaid is a list without some payments.
func unpaid(m api.MoList, out []int) api.MoList {
	var left []api.MoPaid
	for at, p := range m.Paid {
		if !slices.Contains(out, at) {
			left = append(left, p)
		}
	}
	return paying(m, left...)
}

// errors returns the error of each function but Check.
func errors(m api.MoList, sum, claimant int) [8]api.Errno {
	_, _, first := money.First(m)
	_, who := money.For(m, sum)
	_, pay := money.Pay(m, sum)
	_, held := money.Held(m)
	_, wait := money.Wait(m)
	_, owed := money.Owed(m, claimant)
	_, _, need := money.Need(m)
	_, wrong := money.Wrong(m)
	return [8]api.Errno{first, who, pay, held, wait, owed, need, wrong}
}

// allErrors is an error of all functions but Check.
func allErrors(e api.Errno) [8]api.Errno { return [8]api.Errno{e, e, e, e, e, e, e, e} }

// answers are the results of all functions but Check and Wait, for all sums and claimants; -1 is what cannot be paid.
type answers struct {
	first, pay, held, wrong []int
	who                     [][]int
	owed                    []api.Span
	many, sure, all         int
}

// ask calls all functions but Check and Wait; there must be a truth.
func ask(t *testing.T, m api.MoList) answers {
	t.Helper()
	var a answers
	a.first, a.many = mustTwo[[]int, int](t)(money.First(m))
	for sum := range m.Sums {
		a.who = append(a.who, must[[]int](t)(money.For(m, sum)))
		a.pay = append(a.pay, paidTo(t, m, sum))
	}
	a.held = must[[]int](t)(money.Held(m))
	for claimant := range m.Claimants {
		a.owed = append(a.owed, must[api.Span](t)(money.Owed(m, claimant)))
	}
	a.sure, a.all = mustTwo[int, int](t)(money.Need(m))
	a.wrong = must[[]int](t)(money.Wrong(m))
	return a
}

// sameAnswers reports whether all results are the same.
func sameAnswers(a, b answers) bool {
	return slices.Equal(a.first, b.first) && slices.Equal(a.pay, b.pay) && slices.Equal(a.held, b.held) && slices.Equal(a.wrong, b.wrong) &&
		slices.EqualFunc(a.who, b.who, slices.Equal[[]int]) && slices.Equal(a.owed, b.owed) &&
		a.many == b.many && a.sure == b.sure && a.all == b.all
}

// paidTo returns the claimant of Pay, or -1 with ErrDown.
func paidTo(t *testing.T, m api.MoList, sum int) int {
	t.Helper()
	n, e := money.Pay(m, sum)
	switch {
	case e == api.ErrDown && n == 0:
		return -1
	case e != api.OK:
		t.Fatalf("Pay of %d = %d, %d", sum, n, e)
	}
	return n
}

// must returns the result of a call, which must have no error; mustTwo those of a call with two results.
func must[T any](t *testing.T) func(result T, e api.Errno) T {
	return func(result T, e api.Errno) T {
		t.Helper()
		if e != api.OK {
			t.Fatalf("error %d", e)
		}
		return result
	}
}

func mustTwo[T, U any](t *testing.T) func(one T, two U, e api.Errno) (T, U) {
	return func(one T, two U, e api.Errno) (T, U) {
		t.Helper()
		if e != api.OK {
			t.Fatalf("error %d", e)
		}
		return one, two
	}
}

// knownCounting returns what the tests hold for the words that count.
func knownCounting(m api.MoList) []api.MoWord {
	taken := map[int]bool{}
	for _, w := range m.Words {
		if w.Came {
			taken[w.Back] = true
		}
	}
	var l []api.MoWord
	for at, w := range m.Words {
		if w.Came && !taken[at] {
			l = append(l, w)
		}
	}
	return l
}

// isSo reports whether what a word says is so if sums are for these claimants.
func isSo(w api.MoWord, who []int) bool {
	switch w.Says {
	case api.MoIs:
		return who[w.Sum] == w.Of
	case api.MoNot:
		return who[w.Sum] != w.Of
	case api.MoSame:
		return who[w.Sum] == who[w.Of]
	}
	return who[w.Sum] != who[w.Of]
}

// isTruth reports whether claimants of sums are what the tests hold for a truth.
func isTruth(m api.MoList, who []int) bool {
	for at, s := range m.Sums {
		if s.For>>who[at]&1 == 0 {
			return false
		}
	}
	return !slices.ContainsFunc(knownCounting(m), func(w api.MoWord) bool { return !isSo(w, who) })
}

// knownTruths returns the truths of a list, in their order: of all claimants whom sums could be for those that are a truth.
func knownTruths(m api.MoList) [][]int {
	many := 1
	for range m.Sums {
		many *= len(m.Claimants)
	}
	var all [][]int
	for number := range many {
		who := make([]int, len(m.Sums))
		for at := len(who) - 1; at >= 0; at-- {
			who[at] = number % len(m.Claimants)
			number /= len(m.Claimants)
		}
		if isTruth(m, who) {
			all = append(all, who)
		}
	}
	return all
}

// knownFor returns the claimants whom a sum is for in some of the truths.
func knownFor(known [][]int, sum int) []int {
	var l []int
	for _, who := range known {
		l = append(l, who[sum])
	}
	slices.Sort(l)
	return slices.Compact(l)
}

// knownHeld returns the sums that are held.
func knownHeld(m api.MoList, known [][]int) []int {
	var l []int
	for sum := range m.Sums {
		if len(knownFor(known, sum)) > 1 {
			l = append(l, sum)
		}
	}
	return l
}

// knownOwed returns what a claimant is owed in a truth.
func knownOwed(m api.MoList, who []int, claimant int) int {
	pence := 0
	for sum, s := range m.Sums {
		if who[sum] == claimant {
			pence += s.Pence
		}
	}
	return pence
}

// areRight reports whether no payments are of one sum, and some truth has all of them.
func areRight(payments []api.MoPaid, known [][]int) bool {
	for at, p := range payments {
		if slices.ContainsFunc(payments[:at], func(o api.MoPaid) bool { return o.Sum == p.Sum }) {
			return false
		}
	}
	return slices.ContainsFunc(known, func(who []int) bool {
		return !slices.ContainsFunc(payments, func(p api.MoPaid) bool { return who[p.Sum] != p.Claimant })
	})
}

// waiting returns the words that have not come.
func waiting(m api.MoList) []int {
	var l []int
	for at, w := range m.Words {
		if !w.Came {
			l = append(l, at)
		}
	}
	return l
}

// subsets returns all lists of some of the numbers, the shorter ones first, then number by number.
func subsets(numbers []int) [][]int {
	var all [][]int
	for set := range 1 << len(numbers) {
		var l []int
		for at, n := range numbers {
			if set>>at&1 == 1 {
				l = append(l, n)
			}
		}
		all = append(all, l)
	}
	slices.SortFunc(all, func(a, b []int) int {
		if len(a) != len(b) {
			return len(a) - len(b)
		}
		return slices.Compare(a, b)
	})
	return all
}

// below returns the numbers below n.
func below(n int) []int {
	var l []int
	for i := range n {
		l = append(l, i)
	}
	return l
}

// dice returns numbers that are the same in each run.
func dice(seed uint64) *rand.Rand { return rand.New(rand.NewPCG(seed, 7)) }

// oneOf returns one of some things.
func oneOf[T any](d *rand.Rand, things ...T) T { return things[d.IntN(len(things))] }

// anyWord returns a word of a list with sums, that takes none back; more often than not it came.
func anyWord(d *rand.Rand, m api.MoList) api.MoWord {
	w := is(d.IntN(len(m.Sums)), d.IntN(len(m.Claimants)))
	if len(m.Sums) > 1 && d.IntN(2) == 0 {
		two := d.Perm(len(m.Sums))
		w = oneOf(d, same, other)(two[0], two[1])
	} else if d.IntN(3) > 0 {
		w.Says = api.MoNot
	}
	w.Came = d.IntN(5) > 1
	return w
}

// taking returns a list some of whose words take other ones back.
func taking(d *rand.Rand, m api.MoList) api.MoList {
	m.Words = slices.Clone(m.Words)
	for at := range m.Words {
		if of := d.IntN(len(m.Words)); of != at && d.IntN(3) == 0 {
			m.Words[at].Back = of
		}
	}
	return m
}

// anyList returns a list; its sums can have names of claimants.
func anyList(d *rand.Rand) api.MoList {
	m := plain(oneOf(d, 0, 1, 2, 2, 3, 3, 4, 4), nil)
	many := len(m.Claimants)
	if many == 0 {
		return m
	}
	for at := range oneOf(d, 0, 1, 2, 3, 3, 4, 4, 5, 5) {
		m.Sums = append(m.Sums, api.MoSum{Name: called(at), Pence: 1 + d.IntN(api.MaxMoPence), For: 1 + d.IntN(1<<many-1) | 1<<d.IntN(many)})
	}
	if len(m.Sums) == 0 {
		return m
	}
	for range d.IntN(api.MaxMoWords + 1) {
		m.Words = append(m.Words, anyWord(d, m))
	}
	for range d.IntN(api.MaxMoPaid + 1) {
		m.Paid = append(m.Paid, paid(d.IntN(len(m.Sums)), d.IntN(many)))
	}
	return taking(d, m)
}

// eachList calls a test for many lists.
func eachList(t *testing.T, test func(t *testing.T, d *rand.Rand, m api.MoList)) {
	for seed := range uint64(2000) {
		d := dice(seed)
		m := anyList(d)
		if part, at, e := money.Check(m); part != 0 || at != 0 || e != api.OK {
			t.Fatalf("Check of %+v = %d, %d, %d", m, part, at, e)
		}
		test(t, d, m)
		if t.Failed() {
			t.Fatalf("the list was %+v", m)
		}
	}
}

// eachTrueList calls a test for many lists that have a truth.
func eachTrueList(t *testing.T, test func(t *testing.T, d *rand.Rand, m api.MoList)) {
	eachList(t, func(t *testing.T, d *rand.Rand, m api.MoList) {
		if _, _, e := money.First(m); e == api.OK {
			test(t, d, m)
		}
	})
}
