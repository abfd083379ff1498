package money_test

import (
	"math"
	"math/rand/v2"
	"slices"
	"testing"

	"escribano/api"
	"escribano/money"
)

// P7.2, P7.3, P7.5: all truths are what the tests hold for them
func TestKnownTruths(t *testing.T) {
	lists, truths, held, pays := 0, 0, 0, 0
	eachList(t, func(t *testing.T, d *rand.Rand, m api.MoList) {
		known := knownTruths(m)
		if len(known) == 0 {
			if _, _, e := money.First(m); e != api.ErrZero {
				t.Errorf("First's error is %d", e)
			}
			return
		}
		a := ask(t, m)
		if !slices.Equal(a.first, known[0]) || a.many != len(known) {
			t.Errorf("First = %v, %d, not %v, %d", a.first, a.many, known[0], len(known))
		}
		for sum := range m.Sums {
			who, pay := knownFor(known, sum), -1
			if len(who) == 1 {
				pay = who[0]
				pays++
			}
			if !slices.Equal(a.who[sum], who) || a.pay[sum] != pay {
				t.Errorf("For of %d = %v, Pay = %d, not %v", sum, a.who[sum], a.pay[sum], who)
			}
		}
		if want := knownHeld(m, known); !slices.Equal(a.held, want) {
			t.Errorf("Held = %v, not %v", a.held, want)
		}
		for claimant, s := range a.owed {
			want := api.Span{Lo: math.MaxInt}
			for _, who := range known {
				pence := knownOwed(m, who, claimant)
				want.Lo, want.Hi = min(want.Lo, pence), max(want.Hi, pence)
			}
			if s != want {
				t.Errorf("Owed of %d = %v, not %v", claimant, s, want)
			}
		}
		lists++
		truths += len(known)
		held += len(a.held)
	})
	if lists < 500 || truths < 3000 || held < 500 || pays < 500 {
		t.Errorf("only %d lists with %d truths, %d sums held, %d not", lists, truths, held, pays)
	}
}

// P7.5: what is needed is what the tests hold for it
func TestKnownNeed(t *testing.T) {
	less := 0
	eachTrueList(t, func(t *testing.T, d *rand.Rand, m api.MoList) {
		held := knownHeld(m, knownTruths(m))
		wantSure, wantAll := 0, 0
		for sum, s := range m.Sums {
			if slices.ContainsFunc(m.Paid, func(p api.MoPaid) bool { return p.Sum == sum }) {
				continue
			}
			wantAll += s.Pence
			if !slices.Contains(held, sum) {
				wantSure += s.Pence
			}
		}
		if sure, all := mustTwo[int, int](t)(money.Need(m)); sure != wantSure || all != wantAll {
			t.Errorf("Need = %d, %d, not %d, %d", sure, all, wantSure, wantAll)
		}
		if wantSure > 0 && wantSure < wantAll {
			less++
		}
	})
	if less < 100 {
		t.Errorf("only %d lists", less)
	}
}

// P7.4: the words of Wait are what the tests hold for them
func TestKnownWait(t *testing.T) {
	nothing, some, down := 0, 0, 0
	eachTrueList(t, func(t *testing.T, d *rand.Rand, m api.MoList) {
		for _, n := range []api.MoList{m, silent(m)} {
			words, found := knownWait(n)
			l, e := money.Wait(n)
			if !slices.Equal(l, words) || found != (e == api.OK) || !found && e != api.ErrDown {
				t.Errorf("Wait = %v, %d, not %v, in %+v", l, e, words, n)
			}
			switch {
			case !found:
				down++
			case len(words) == 0:
				nothing++
			default:
				some++
			}
		}
	})
	if nothing < 500 || some < 200 || down < 500 {
		t.Errorf("only %d lists that wait for nothing, %d for words, %d in vain", nothing, some, down)
	}
}

// silent is a list none of whose words has come.
func silent(m api.MoList) api.MoList {
	for at := range m.Words {
		m = gone(m, at)
	}
	return m
}

// knownWait returns the fewest words that have to come so that there is one truth, and whether there are any.
func knownWait(m api.MoList) ([]int, bool) {
	for _, words := range subsets(waiting(m)) {
		if len(knownTruths(came(m, words...))) == 1 {
			return words, true
		}
	}
	return nil, false
}

// P7.6, P7.10, P9: the payments of Wrong are what the tests hold for them
func TestKnownWrong(t *testing.T) {
	wrong := 0
	eachTrueList(t, func(t *testing.T, d *rand.Rand, m api.MoList) {
		out, known := must[[]int](t)(money.Wrong(m)), knownTruths(m)
		for _, l := range subsets(below(len(m.Paid))) {
			if areRight(unpaid(m, l).Paid, known) {
				if !slices.Equal(l, out) {
					t.Errorf("Wrong = %v, not %v", out, l)
				}
				break
			}
		}
		if len(out) > 0 {
			wrong++
		}
	})
	if wrong < 300 {
		t.Errorf("only %d lists with wrong payments", wrong)
	}
}

// P7.7, P4
func TestPaidOnce(t *testing.T) {
	pays := 0
	eachTrueList(t, func(t *testing.T, d *rand.Rand, m api.MoList) {
		a := ask(t, m)
		pence := 0
		for _, s := range m.Sums {
			pence += s.Pence
		}
		for _, who := range knownTruths(m) {
			for sum, pay := range a.pay {
				if pay >= 0 && who[sum] != pay {
					t.Errorf("Pay of %d = %d, but %v is a truth", sum, pay, who)
				}
				if pay >= 0 {
					pays++
				}
			}
			together := 0
			for claimant, s := range a.owed {
				n := knownOwed(m, who, claimant)
				if n < s.Lo || n > s.Hi {
					t.Errorf("Owed of %d = %v, but %d in %v", claimant, s, n, who)
				}
				together += n
			}
			if together != pence {
				t.Errorf("%d are owed in %v, not %d", together, who, pence)
			}
		}
	})
	if pays < 1000 {
		t.Errorf("only %d sums are sure", pays)
	}
}

// P7.8, P4: what is held, and how it is decided
func TestHeld(t *testing.T) {
	decided := 0
	eachTrueList(t, func(t *testing.T, d *rand.Rand, m api.MoList) {
		held := must[[]int](t)(money.Held(m))
		for sum := range m.Sums {
			if isHeld := len(must[[]int](t)(money.For(m, sum))) >= 2; isHeld != slices.Contains(held, sum) || isHeld != (paidTo(t, m, sum) < 0) {
				t.Errorf("Held = %v, and %d", held, sum)
			}
		}
		wait, e := money.Wait(m)
		for _, words := range subsets(waiting(m)) {
			l, f := money.Held(came(m, words...))
			isDecided := f == api.OK && len(l) == 0
			if isDecided && (e != api.OK || len(words) < len(wait)) {
				t.Errorf("Wait = %v, %d, but %v are fewer", wait, e, words)
			}
			if e == api.OK && slices.Equal(words, wait) {
				decided++
				if !isDecided {
					t.Errorf("Wait = %v, and then Held = %v, %d", wait, l, f)
				}
			}
		}
	})
	if decided < 200 {
		t.Errorf("only %d lists are decided", decided)
	}
}

// tellings returns claimants, and a list of whose sums nothing is said but what is so of them.
func tellings(d *rand.Rand) ([]int, api.MoList) {
	m := plain(1+d.IntN(api.MaxMoClaimants), nil)
	var who []int
	for at := range d.IntN(api.MaxMoSums + 1) {
		is := d.IntN(len(m.Claimants))
		who = append(who, is)
		m.Sums = append(m.Sums, api.MoSum{Name: called(at), Pence: 1 + d.IntN(api.MaxMoPence), For: d.IntN(1<<len(m.Claimants)) | 1<<is})
	}
	if len(who) == 0 {
		return who, m
	}
	for range d.IntN(api.MaxMoWords + 1) {
		w := anyWord(d, m)
		if !isSo(w, who) {
			w.Says ^= 1 // what is said is not so, so the opposite is
		}
		m.Words = append(m.Words, w)
	}
	return who, taking(d, m)
}

// P7.9
func TestWhatIsSo(t *testing.T) {
	held, pays := 0, 0
	for seed := range uint64(1000) {
		who, m := tellings(dice(seed))
		for range 2 {
			first, many := mustTwo[[]int, int](t)(money.First(m))
			if many < 1 || slices.Compare(first, who) > 0 {
				t.Errorf("%+v: First = %v, %d, not %v", m, first, many, who)
			}
			paidAll := m
			for sum, claimant := range who {
				if l := must[[]int](t)(money.For(m, sum)); !slices.Contains(l, claimant) {
					t.Errorf("%+v: For of %d = %v", m, sum, l)
				}
				switch paidTo(t, m, sum) {
				case claimant:
					pays++
				case -1:
					held++
				default:
					t.Errorf("%+v: the sum %d is not for %d", m, sum, claimant)
				}
				paidAll.Paid = append(paidAll.Paid, paid(sum, claimant))
			}
			for claimant := range m.Claimants {
				if s, n := must[api.Span](t)(money.Owed(m, claimant)), knownOwed(m, who, claimant); n < s.Lo || n > s.Hi {
					t.Errorf("%+v: Owed of %d = %v, not %d", m, claimant, s, n)
				}
			}
			// all payments were right just if the claimants are a truth
			if l := must[[]int](t)(money.Wrong(paidAll)); len(l) > 0 {
				t.Errorf("%+v: Wrong = %v", paidAll, l)
			}
			m = came(m, below(len(m.Words))...)
		}
	}
	if held < 500 || pays < 500 {
		t.Errorf("only %d sums are held, %d sure", held, pays)
	}
}

// P7.10, P9
func TestWithoutWrong(t *testing.T) {
	fewer := 0
	eachTrueList(t, func(t *testing.T, d *rand.Rand, m api.MoList) {
		out := must[[]int](t)(money.Wrong(m))
		if l := must[[]int](t)(money.Wrong(unpaid(m, out))); len(l) > 0 {
			t.Errorf("Wrong = %v, and without these %v", out, l)
		}
		for _, l := range subsets(below(len(m.Paid))) {
			if len(l) >= len(out) {
				break
			}
			fewer++
			if left := must[[]int](t)(money.Wrong(unpaid(m, l))); len(left) == 0 {
				t.Errorf("Wrong = %v, but without %v none is wrong", out, l)
			}
		}
		var payments []api.MoPaid
		for _, sum := range d.Perm(len(m.Sums)) {
			if claimant := paidTo(t, m, sum); claimant >= 0 {
				payments = append(payments, paid(sum, claimant))
			}
		}
		if l := must[[]int](t)(money.Wrong(paying(m, payments...))); len(l) > 0 {
			t.Errorf("paid as Pay says Wrong = %v", l)
		}
	})
	if fewer < 500 {
		t.Errorf("only %d lists of fewer payments", fewer)
	}
}

// P7.11
func TestOneMoreWord(t *testing.T) {
	more, decided := 0, 0
	eachTrueList(t, func(t *testing.T, d *rand.Rand, m api.MoList) {
		var next []api.MoList
		for _, at := range waiting(m) {
			if m.Words[at].Back == none {
				next = append(next, came(m, at))
			}
		}
		if len(m.Sums) > 0 && len(m.Words) < api.MaxMoWords {
			for range 3 {
				w := anyWord(d, m)
				w.Came = true
				next = append(next, with(m, w))
			}
		}
		was := ask(t, m)
		for _, n := range next {
			if _, _, e := money.First(n); e != api.OK {
				continue
			}
			is := ask(t, n)
			more++
			if is.many > was.many || len(is.held) > len(was.held) {
				t.Errorf("First = %d, Held = %v, then %d, %v with %+v", was.many, was.held, is.many, is.held, n)
			}
			for sum, pay := range was.pay {
				if pay >= 0 && is.pay[sum] != pay {
					t.Errorf("Pay of %d = %d, then %d with %+v", sum, pay, is.pay[sum], n)
				}
			}
			if len(is.held) < len(was.held) {
				decided++
			}
		}
	})
	if more < 1000 || decided < 300 {
		t.Errorf("only %d words, of which %d decide", more, decided)
	}
}

// reordered is a list whose words stand in another order: the one that was at the place order[i] is at the place i.
func reordered(m api.MoList, order []int) api.MoList {
	words := make([]api.MoWord, len(m.Words))
	for at, from := range order {
		w := m.Words[from]
		if w.Back != none {
			w.Back = slices.Index(order, w.Back)
		}
		words[at] = w
	}
	m.Words = words
	return m
}

// P7.12
func TestTakenBack(t *testing.T) {
	taken, orders := 0, 0
	eachTrueList(t, func(t *testing.T, d *rand.Rand, m api.MoList) {
		was := ask(t, m)
		wait, e := money.Wait(m)
		for at, w := range m.Words {
			if w.Back != none || !slices.ContainsFunc(m.Words, func(o api.MoWord) bool { return o.Came && o.Back == at }) {
				continue
			}
			for _, n := range []api.MoList{gone(m, at), came(m, at)} {
				if l, f := money.Wait(n); !sameAnswers(was, ask(t, n)) || !slices.Equal(wait, l) || e != f {
					t.Errorf("the word %d changes what is so", at)
				}
			}
			taken++
		}
		order := d.Perm(len(m.Words))
		n := reordered(m, order)
		if !sameAnswers(was, ask(t, n)) {
			t.Errorf("in the order %v it is %+v", order, ask(t, n))
		}
		l, f := money.Wait(n)
		if len(l) != len(wait) || f != e {
			t.Errorf("Wait = %v, %d, in the order %v %v, %d", wait, e, order, l, f)
		}
		if len(order) > 1 {
			orders++
		}
	})
	if taken < 200 || orders < 300 {
		t.Errorf("only %d words taken back, %d orders", taken, orders)
	}
}

// P7.13
func TestWhatIsNeeded(t *testing.T) {
	less, paidFor := 0, 0
	eachTrueList(t, func(t *testing.T, d *rand.Rand, m api.MoList) {
		sure, all := mustTwo[int, int](t)(money.Need(m))
		if held := must[[]int](t)(money.Held(m)); sure > all || len(held) == 0 && sure != all {
			t.Errorf("Need = %d, %d, Held = %v", sure, all, held)
		}
		for at, w := range m.Words {
			if w.Back != none {
				continue
			}
			n := gone(m, at)
			fewer, same := mustTwo[int, int](t)(money.Need(n))
			if fewer > sure || same != all {
				t.Errorf("Need = %d, %d, without the word %d %d, %d", sure, all, at, fewer, same)
			}
			if fewer < sure {
				less++
			}
		}
		for sum, s := range m.Sums {
			if slices.ContainsFunc(m.Paid, func(p api.MoPaid) bool { return p.Sum == sum }) || len(m.Paid) == api.MaxMoPaid {
				continue
			}
			pay := paidTo(t, m, sum)
			left, rest := mustTwo[int, int](t)(money.Need(paying(m, append(slices.Clone(m.Paid), paid(sum, max(pay, 0)))...)))
			if rest != all-s.Pence || pay >= 0 && left != sure-s.Pence || pay < 0 && left != sure {
				t.Errorf("Need = %d, %d, with a payment of %d %d, %d", sure, all, sum, left, rest)
			}
			paidFor++
		}
	})
	if less < 200 || paidFor < 300 {
		t.Errorf("only %d words less, %d payments more", less, paidFor)
	}
}

// turned is a list with its claimants in the opposite order.
func turned(m api.MoList) api.MoList {
	m = cloned(m)
	last := len(m.Claimants) - 1
	slices.Reverse(m.Claimants)
	for at, s := range m.Sums {
		m.Sums[at].For = 0
		for claimant := range m.Claimants {
			m.Sums[at].For |= s.For >> claimant & 1 << (last - claimant)
		}
	}
	for at, w := range m.Words {
		if w.Says == api.MoIs || w.Says == api.MoNot {
			m.Words[at].Of = last - w.Of
		}
	}
	for at, p := range m.Paid {
		m.Paid[at].Claimant = last - p.Claimant
	}
	return m
}

// P7.14
func TestOppositeOrder(t *testing.T) {
	eachTrueList(t, func(t *testing.T, d *rand.Rand, m api.MoList) {
		n := turned(m)
		was, is := ask(t, m), ask(t, n)
		last := len(m.Claimants) - 1
		for claimant, s := range was.owed {
			if is.owed[last-claimant] != s {
				t.Errorf("Owed of %d = %v, then %v", claimant, s, is.owed[last-claimant])
			}
		}
		for sum, pay := range was.pay {
			if pay >= 0 && is.pay[sum] != last-pay || pay < 0 && is.pay[sum] >= 0 {
				t.Errorf("Pay of %d = %d, then %d", sum, pay, is.pay[sum])
			}
		}
		if !slices.Equal(was.held, is.held) || !slices.Equal(was.wrong, is.wrong) || was.many != is.many || was.sure != is.sure || was.all != is.all {
			t.Errorf("%+v, then %+v", was, is)
		}
		wait, e := money.Wait(m)
		if l, f := money.Wait(n); !slices.Equal(l, wait) || e != f {
			t.Errorf("Wait = %v, %d, then %v, %d", wait, e, l, f)
		}
	})
}

// P7.15: arguments stay as they are, and what lies behind them too
func TestNotModified(t *testing.T) {
	eachList(t, func(t *testing.T, d *rand.Rand, m api.MoList) {
		sums := append(slices.Clone(m.Sums), make([]api.MoSum, 3)...)
		words := append(slices.Clone(m.Words), make([]api.MoWord, 3)...)
		payments := append(slices.Clone(m.Paid), make([]api.MoPaid, 3)...)
		m.Sums, m.Words, m.Paid = sums[:len(m.Sums)], words[:len(m.Words)], payments[:len(m.Paid)]
		was := cloned(m)
		first := errors(m, 0, 0)
		if !sameList(m, was) || slices.ContainsFunc(sums[len(m.Sums):], func(s api.MoSum) bool { return s != api.MoSum{} }) ||
			slices.ContainsFunc(words[len(m.Words):], func(w api.MoWord) bool { return w != api.MoWord{} }) ||
			slices.ContainsFunc(payments[len(m.Paid):], func(p api.MoPaid) bool { return p != api.MoPaid{} }) {
			t.Error("an argument was modified")
		}
		if again := errors(m, 0, 0); again != first {
			t.Errorf("errors %v, then %v", first, again)
		}
	})
}

// P7.15: a result is new memory, and nothing is kept between calls
func TestNewMemory(t *testing.T) {
	m := paying(plain(3, []int{7, 7, 7}, late(is(0, 0)), late(is(1, 1)), late(is(2, 2))), paid(0, 0), paid(0, 1), paid(1, 1), paid(1, 2))
	results := func() [][]int {
		first, _, e := money.First(m)
		if e != api.OK {
			t.Fatalf("error %d", e)
		}
		return [][]int{first, must[[]int](t)(money.For(m, 1)), must[[]int](t)(money.Held(m)), must[[]int](t)(money.Wait(m)), must[[]int](t)(money.Wrong(m))}
	}
	once, twice := results(), results()
	for i, l := range once {
		if len(l) < 2 {
			t.Errorf("%d: %v is short", i, l)
		}
		for at := range l {
			l[at] = 77
		}
		if slices.Contains(twice[i], 77) {
			t.Errorf("%d: memory is shared", i)
		}
	}
	for i, l := range results() {
		if !slices.Equal(l, twice[i]) {
			t.Errorf("%d: %v, then %v", i, twice[i], l)
		}
	}
}

// wildInt returns a number, often one that is just at a limit or far beyond it.
func wildInt(d *rand.Rand) int {
	return oneOf(d, math.MinInt, -1<<32, -2, -1, 0, 1, 2, 3, 4, 5, 6, 15, 16, 99, 100, 1<<32, math.MaxInt-1, math.MaxInt)
}

// wildList returns a list with things in it that are not valid.
func wildList(d *rand.Rand) api.MoList {
	m := anyList(d)
	for range d.IntN(3) {
		switch d.IntN(7) {
		case 0:
			m.Claimants = append(m.Claimants, oneOf(d, "", "a", "x", "x.1", "X", "\xff", "0"))
		case 1:
			m.Claimants = m.Claimants[:d.IntN(len(m.Claimants)+1)]
		case 2:
			m.Sums = append(m.Sums, api.MoSum{Name: oneOf(d, "a", "x", "y", ""), Pence: wildInt(d), For: wildInt(d)})
		case 3:
			m.Sums = m.Sums[:d.IntN(len(m.Sums)+1)]
		case 4:
			m.Words = append(m.Words, api.MoWord{Says: wildInt(d), Sum: wildInt(d), Of: wildInt(d), Back: wildInt(d), Came: d.IntN(2) == 0})
		case 5:
			m.Words = make([]api.MoWord, d.IntN(9))
		case 6:
			m.Paid = append(m.Paid, paid(wildInt(d), wildInt(d)))
		}
	}
	return m
}

// P1, P7.15: any arguments are accepted, and all functions tell the same error of a list
func TestAnyArguments(t *testing.T) {
	wrong := 0
	for seed := range uint64(4000) {
		d := dice(seed)
		m := wildList(d)
		part, at, e := money.Check(m)
		got := errors(m, wildInt(d), wildInt(d))
		if e == api.OK {
			if part != 0 || at != 0 || got[0] != api.OK && got[0] != api.ErrZero || got[3] != got[0] || got[6] != got[0] || got[7] != got[0] {
				t.Errorf("%+v: Check = %d, %d, errors %v", m, part, at, got)
			}
			continue
		}
		wrong++
		if part == 0 || got != allErrors(e) {
			t.Errorf("%+v: Check = %d, %d, %d, errors %v", m, part, at, e, got)
		}
	}
	if wrong < 1000 {
		t.Errorf("only %d lists are not valid", wrong)
	}
	huge := []api.MoList{
		{Claimants: make([]string, 1<<20)},
		{Sums: make([]api.MoSum, 1<<20)},
		{Words: make([]api.MoWord, 1<<20)},
		{Paid: make([]api.MoPaid, 1<<20)},
	}
	for i, m := range huge {
		if part, at, e := money.Check(m); part != i+1 || at != 0 || e != api.ErrLong {
			t.Errorf("%d: Check = %d, %d, %d", i, part, at, e)
		}
	}
}

// P1: the lists for which there is most to do
func TestMostWork(t *testing.T) {
	m := plain(4, []int{15, 15, 15, 15, 15}, late(same(0, 4)), late(same(1, 4)), late(same(2, 4)), late(same(3, 4)), late(other(0, 1)), late(is(4, 3)))
	for range api.MaxMoPaid {
		m.Paid = append(m.Paid, paid(4, 3))
	}
	a := ask(t, m)
	if a.many != 1024 || !slices.Equal(a.held, []int{0, 1, 2, 3, 4}) || !slices.Equal(a.wrong, []int{0, 1, 2, 3}) || a.sure != 0 || a.all != 15 {
		t.Errorf("%+v", a)
	}
	if l := must[[]int](t)(money.Wait(m)); !slices.Equal(l, []int{0, 1, 2, 3, 5}) {
		t.Errorf("Wait = %v", l)
	}
	m.Words[5] = late(not(4, 3))
	if l, e := money.Wait(m); len(l) != 0 || e != api.ErrDown {
		t.Errorf("Wait = %v, %d", l, e)
	}
}
