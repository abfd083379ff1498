package gift_test

import (
	"math"
	"math/rand/v2"
	"slices"
	"testing"

	"escribano/api"
	"escribano/gift"
)

// known is what the tests hold for the answers about a gift.
type known struct {
	truths    int
	fees      [][]int
	left      []api.Span
	paid      []int // in how many truths the gift pays for each visit
	ends      int
	sum, need int // what the letters of widows cost together at most, and what is lacking then
}

// knownOf returns what the tests hold for the answers about a gift.
func knownOf(f api.GiFund) known {
	k := known{ends: never, fees: make([][]int, len(f.Visits)), paid: make([]int, len(f.Visits))}
	for u := range knownTruths(f) {
		c := courseOf(f, u)
		sum := 0
		for visit, fee := range u.fees {
			if fee == nobody {
				continue
			}
			if !slices.Contains(k.fees[visit], fee) {
				k.fees[visit] = append(k.fees[visit], fee)
			}
			if u.widows[f.Visits[visit].Person] {
				sum += fee
			}
			if c.pays[visit] {
				k.paid[visit]++
			}
		}
		for day, pence := range c.left {
			if k.truths == 0 {
				k.left = append(k.left, span(pence, pence))
			}
			k.left[day] = span(min(k.left[day].Lo, pence), max(k.left[day].Hi, pence))
		}
		if c.ends != never && (k.ends == never || c.ends < k.ends) {
			k.ends = c.ends
		}
		k.truths++
		k.sum = max(k.sum, sum)
	}
	for _, fees := range k.fees {
		slices.Sort(fees)
	}
	k.need = max(k.sum-f.Pence, 0)
	return k
}

// pays returns what Pays has to be for each visit.
func (k known) pays() []int {
	var l []int
	for _, paid := range k.paid {
		switch paid {
		case 0:
			l = append(l, api.Never)
		case k.truths:
			l = append(l, api.Must)
		default:
			l = append(l, api.May)
		}
	}
	return l
}

// P11.2 to P11.4: all answers are what the tests hold for them
func TestKnownAnswers(t *testing.T) {
	gifts, none, ended, many := 0, 0, 0, map[int]int{}
	eachFund(t, func(t *testing.T, d *rand.Rand, f api.GiFund) {
		k := knownOf(f)
		if k.truths == 0 {
			none++
			if isTrue(t, f) {
				t.Error("there is no truth")
			}
			return
		}
		gifts++
		if l := feesOf(t, f); !slices.EqualFunc(l, k.fees, slices.Equal) {
			t.Errorf("Fees = %v, not %v", l, k.fees)
		}
		if l := leftOf(t, f); !slices.Equal(l, k.left) {
			t.Errorf("Left = %v, not %v", l, k.left)
		}
		l, pays := paysOf(t, f), k.pays()
		if !slices.Equal(l, pays) {
			t.Errorf("Pays = %v, not %v", l, pays)
		}
		if day, more := endsOf(t, f), must[int](t)(gift.Need(f)); day != k.ends || more != k.need {
			t.Errorf("Ends = %d, Need = %d, not %d, %d", day, more, k.ends, k.need)
		}
		if k.ends > 0 {
			ended++
		}
		for _, how := range pays {
			many[how]++
		}
	})
	if gifts < 1200 || none < 200 || ended < 300 || many[api.May] < 500 || many[api.Must] < 200 || many[api.Never] < 500 {
		t.Errorf("only %d gifts with truths, %d without, %d end behind the first day, %v visits", gifts, none, ended, many)
	}
}

// P11.5, P11.10: the visits of Refuse are what the tests hold for them
func TestKnownRefuse(t *testing.T) {
	none, one, several := 0, 0, 0
	eachTrueFund(t, func(t *testing.T, d *rand.Rand, f api.GiFund) {
		out := must[[]int](t)(gift.Refuse(f))
		for _, l := range subsets(len(f.Visits)) {
			if !lasts(refused(f, l)) {
				continue
			}
			if !slices.Equal(out, l) {
				t.Errorf("Refuse = %v, not %v", out, l)
			}
			break
		}
		switch len(out) {
		case 0:
			none++
		case 1:
			one++
		default:
			several++
		}
	})
	if none < 400 || one < 200 || several < 200 {
		t.Errorf("only %d gifts without a visit to refuse, %d with one, %d with several", none, one, several)
	}
}

// P11.6, P11.11, P5, P9: the entries of Wrong are what the tests hold for them
func TestKnownWrong(t *testing.T) {
	none, one, several := 0, 0, 0
	eachFund(t, func(t *testing.T, d *rand.Rand, f api.GiFund) {
		out := must[[]int](t)(gift.Wrong(f))
		for _, l := range subsets(len(f.Entries)) {
			if !isKnownTrue(without(f, l...)) {
				continue
			}
			if !slices.Equal(out, l) {
				t.Errorf("Wrong = %v, not %v", out, l)
			}
			break
		}
		switch len(out) {
		case 0:
			none++
		case 1:
			one++
		default:
			several++
		}
	})
	if none < 1000 || one < 100 || several < 50 {
		t.Errorf("only %d gifts with nothing wrong, %d with one entry, %d with several", none, one, several)
	}
}

// eachTruth calls a test for many gifts, and for each some truths: those of the entries and others.
func eachTruth(t *testing.T, test func(t *testing.T, f api.GiFund, u fact)) {
	for seed := range uint64(3000) {
		d := dice(seed)
		u, f := anyGift(d)
		for range 5 {
			if isAllowed(f, u) {
				test(t, f, u)
			}
			u = anyTruth(d, f)
		}
		if t.Failed() {
			t.Fatalf("the gift was %+v", f)
		}
	}
}

// P11.7, P8
func TestLasts(t *testing.T) {
	sure, ended, later := 0, 0, 0
	eachTruth(t, func(t *testing.T, f api.GiFund, u fact) {
		need, ends, c := must[int](t)(gift.Need(f)), endsOf(t, f), courseOf(f, u)
		if (need == 0) != (ends == never) {
			t.Errorf("Need = %d, Ends = %d", need, ends)
		}
		if c.ends != never && (ends == never || c.ends < ends) {
			t.Errorf("Ends = %d, but it ends on %d in %+v", ends, c.ends, u)
		}
		for visit, fee := range u.fees {
			v := f.Visits[visit]
			if fee == nobody || !u.widows[v.Person] || ends != never && v.Day >= ends {
				continue
			}
			if sure++; !c.pays[visit] {
				t.Errorf("Ends = %d, but %d is not paid in %+v", ends, visit, u)
			}
		}
		switch {
		case c.ends != never && c.ends > ends:
			later++
		case c.ends != never:
			ended++
		}
	})
	if sure < 2000 || ended < 1000 || later < 100 {
		t.Errorf("only %d letters are surely paid, %d gifts end on the first day on which they can, %d later", sure, ended, later)
	}
}

// P11.8, P8
func TestEnoughPence(t *testing.T) {
	more := 0
	eachTrueFund(t, func(t *testing.T, d *rand.Rand, f api.GiFund) {
		need := must[int](t)(gift.Need(f))
		if !lasts(richer(f, need)) {
			t.Errorf("Need = %d", need)
		}
		if need == 0 {
			return
		}
		more++
		if lasts(richer(f, need-1)) {
			t.Errorf("Need = %d, but one less is enough", need)
		}
		if f.Pence+need > api.MaxGiPence {
			return
		}
		if is, was := endsOf(t, richer(f, need)), endsOf(t, richer(f, need-1)); is != never || was == never {
			t.Errorf("Need = %d, Ends = %d, and %d with one less", need, is, was)
		}
	})
	if more < 500 {
		t.Errorf("only %d gifts need more", more)
	}
}

// P11.9
func TestWhatIsLeft(t *testing.T) {
	less, wide := 0, 0
	eachTruth(t, func(t *testing.T, f api.GiFund, u fact) {
		left, c := leftOf(t, f), courseOf(f, u)
		was := span(f.Pence, f.Pence)
		for day, s := range left {
			paid := 0
			for visit, v := range f.Visits {
				if v.Day <= day && c.pays[visit] {
					paid += u.fees[visit]
				}
			}
			if c.left[day] != f.Pence-paid || c.left[day] < s.Lo || c.left[day] > s.Hi || s.Lo < 0 {
				t.Errorf("Left of %d = %v, but %d pence are left in %+v", day, s, f.Pence-paid, u)
			}
			if s.Lo > was.Lo || s.Hi > was.Hi {
				t.Errorf("Left = %v", left)
			}
			if s != was {
				less++
			}
			if s.Lo < s.Hi {
				wide++
			}
			was = s
		}
	})
	if less < 5000 || wide < 5000 {
		t.Errorf("only %d days on which something is paid, %d spans", less, wide)
	}
}

// P11.10
func TestFewestRefused(t *testing.T) {
	fewer := 0
	eachTrueFund(t, func(t *testing.T, d *rand.Rand, f api.GiFund) {
		out := must[[]int](t)(gift.Refuse(f))
		if day := endsOf(t, refused(f, out)); day != never {
			t.Errorf("Refuse = %v, but then Ends = %d", out, day)
		}
		for _, l := range subsets(len(f.Visits)) {
			if len(l) >= len(out) {
				break
			}
			if fewer++; endsOf(t, refused(f, l)) == never {
				t.Errorf("Refuse = %v, but %v are enough", out, l)
			}
		}
	})
	if fewer < 1500 {
		t.Errorf("only %d lists of fewer", fewer)
	}
}

// P11.11, P5, P9
func TestFewestEntries(t *testing.T) {
	wrong, fewer := 0, 0
	eachFund(t, func(t *testing.T, d *rand.Rand, f api.GiFund) {
		out := must[[]int](t)(gift.Wrong(f))
		if !isTrue(t, without(f, out...)) {
			t.Errorf("Wrong = %v", out)
		}
		if len(out) > 0 {
			wrong++
		}
		for _, l := range subsets(len(f.Entries)) {
			if len(l) >= len(out) {
				break
			}
			if fewer++; isTrue(t, without(f, l...)) {
				t.Errorf("Wrong = %v, but %v are enough", out, l)
			}
		}
	})
	if wrong < 200 || fewer < 400 {
		t.Errorf("only %d gifts with wrong entries, %d lists of fewer", wrong, fewer)
	}
}

// P11.12
func TestPaid(t *testing.T) {
	never, first := 0, 0
	eachTrueFund(t, func(t *testing.T, d *rand.Rand, f api.GiFund) {
		for visit, how := range paysOf(t, f) {
			v := f.Visits[visit]
			fees := must[[]int](t)(gift.Fees(f, visit))
			if f.People[v.Person].Widow == api.GiNo {
				if never++; how != api.Never {
					t.Errorf("Pays of %d = %d", visit, how)
				}
			}
			if visit == 0 && v.Sure && f.People[v.Person].Widow == api.GiYes && fees[len(fees)-1] <= f.Pence {
				if first++; how != api.Must {
					t.Errorf("Pays of the first one = %d", how)
				}
			}
		}
	})
	if never < 300 || first < 100 {
		t.Errorf("only %d visits of others than widows, %d first ones that are paid", never, first)
	}
}

// isWithin reports whether each span is within the other one.
func isWithin(spans, others []api.Span) bool {
	for at, s := range spans {
		if s.Lo < others[at].Lo || s.Hi > others[at].Hi {
			return false
		}
	}
	return len(spans) == len(others)
}

// P11.13
func TestOneMoreEntry(t *testing.T) {
	entries, fewer, narrower, surer, lesser := 0, 0, 0, 0, 0
	eachTrueFund(t, func(t *testing.T, d *rand.Rand, f api.GiFund) {
		if len(f.Visits) == 0 || len(f.Entries) == api.MaxGiEntries {
			return
		}
		visit := d.IntN(len(f.Visits))
		n := with(f, entry(visit, oneOf(d, knownFees(f, visit)...)))
		if n.Entries[len(n.Entries)-1].Pence == nobody || !isTrue(t, n) {
			return
		}
		entries++
		was, is := feesOf(t, f), feesOf(t, n)
		for at, fees := range is {
			if slices.ContainsFunc(fees, func(fee int) bool { return !slices.Contains(was[at], fee) }) {
				t.Errorf("Fees of %d = %v, then %v in %+v", at, was[at], fees, n)
			}
			if len(fees) < len(was[at]) {
				fewer++
			}
		}
		if !isWithin(leftOf(t, n), leftOf(t, f)) {
			t.Errorf("Left = %v, then %v in %+v", leftOf(t, f), leftOf(t, n), n)
		}
		if !slices.Equal(leftOf(t, n), leftOf(t, f)) {
			narrower++
		}
		pays := paysOf(t, n)
		for at, how := range paysOf(t, f) {
			if how != api.May && how != pays[at] {
				t.Errorf("Pays of %d = %d, then %d in %+v", at, how, pays[at], n)
			}
			if how != pays[at] {
				surer++
			}
		}
		need, more := must[int](t)(gift.Need(f)), must[int](t)(gift.Need(n))
		if more > need {
			t.Errorf("Need = %d, then %d in %+v", need, more, n)
		}
		if more < need {
			lesser++
		}
	})
	if entries < 800 || fewer < 300 || narrower < 200 || surer < 100 || lesser < 100 {
		t.Errorf("only %d entries, %d with fewer fees, %d that tell what is left, %d what is paid, %d that need less", entries, fewer, narrower, surer, lesser)
	}
}

// easier returns a gift in which letters cost less.
func easier(d *rand.Rand, f api.GiFund) api.GiFund {
	f = cloned(f)
	less := &f.Lines[d.IntN(len(f.Lines))]
	if d.IntN(2) == 0 {
		less = oneOf(d, &f.Open, &f.Late)
	}
	*less = d.IntN(*less + 1)
	return f
}

// P11.14
func TestEasier(t *testing.T) {
	cheaper, fewer, poorer := 0, 0, 0
	eachTrueFund(t, func(t *testing.T, d *rand.Rand, f api.GiFund) {
		need, out := must[int](t)(gift.Need(f)), must[[]int](t)(gift.Refuse(f))
		pence := d.IntN(api.MaxGiPence - f.Pence + 1)
		if d.IntN(2) == 0 {
			pence = min(pence, d.IntN(20))
		}
		n := richer(f, pence)
		if more := must[int](t)(gift.Need(n)); more != max(need-pence, 0) {
			t.Errorf("Need = %d, then %d with %d pence more", need, more, pence)
		}
		left := must[[]int](t)(gift.Refuse(n))
		if len(left) > len(out) {
			t.Errorf("Refuse = %v, then %v with %d pence more", out, left, pence)
		}
		if len(left) < len(out) {
			fewer++
		}
		if need > pence && pence > 0 {
			poorer++
		}
		f.Entries = nil
		was, is := must[int](t)(gift.Need(f)), must[int](t)(gift.Need(easier(d, f)))
		if is > was {
			t.Errorf("Need = %d, then %d", was, is)
		}
		if is < was {
			cheaper++
		}
	})
	if cheaper < 200 || fewer < 200 || poorer < 100 {
		t.Errorf("only %d letters that are cheaper, %d with fewer visits to refuse, %d that still need more", cheaper, fewer, poorer)
	}
}

// isZero reports whether a thing is the zero value of its type.
func isZero[T comparable](thing T) bool {
	var zero T
	return thing == zero
}

// roomy returns a list with room behind it, and all of its memory.
func roomy[T any](list []T) (some, all []T) {
	all = append(slices.Clone(list), make([]T, 3)...)
	return all[:len(list)], all
}

// isKept reports whether there still is nothing behind the first ones of a list.
func isKept[T comparable](all []T, many int) bool {
	return !slices.ContainsFunc(all[many:], func(thing T) bool { return !isZero(thing) })
}

// P11.15: arguments stay as they are, and what lies behind them too
func TestNotModified(t *testing.T) {
	eachFund(t, func(t *testing.T, d *rand.Rand, f api.GiFund) {
		var lines []int
		var people []api.GiPerson
		var visits []api.GiVisit
		var entries []api.GiEntry
		f.Lines, lines = roomy(f.Lines)
		f.People, people = roomy(f.People)
		f.Visits, visits = roomy(f.Visits)
		f.Entries, entries = roomy(f.Entries)
		was := cloned(f)
		first := ask(f, 0, 0)
		if !sameFund(f, was) || !isKept(lines, len(f.Lines)) || !isKept(people, len(f.People)) || !isKept(visits, len(f.Visits)) || !isKept(entries, len(f.Entries)) {
			t.Error("an argument was modified")
		}
		if again := ask(f, 0, 0); !again.same(first) {
			t.Errorf("%+v, then %+v", first, again)
		}
	})
}

// P11.15: a result is new memory, and nothing is kept between calls
func TestNewMemory(t *testing.T) {
	f := plain(3, comes(ana, 0, 2, 5), comes(ana, 0, 3, 6), comes(rosa, 1, 4, 4))
	bad := with(f, entry(0, 1), entry(0, 1), entry(0, 2))
	results := func() [][]int {
		return [][]int{must[[]int](t)(gift.Fees(f, 0)), must[[]int](t)(gift.Fees(with(f, entry(1, 4)), 0)), must[[]int](t)(gift.Refuse(f)), must[[]int](t)(gift.Wrong(bad))}
	}
	once, twice := results(), results()
	for i, l := range once {
		if len(l) < 2 {
			t.Errorf("%d: %v is short", i, l)
		}
		for at := range l {
			l[at] = 77
		}
		// what lies behind a list is not the memory of another one
		_ = append(l, 88)
		if slices.Contains(twice[i], 77) || slices.Contains(twice[i], 88) {
			t.Errorf("%d: memory is shared", i)
		}
	}
	for i, l := range results() {
		if !slices.Equal(l, twice[i]) {
			t.Errorf("%d: %v, then %v", i, twice[i], l)
		}
	}
}

// wildInt returns a number, often one that is just at a limit or far beyond it.
func wildInt(d *rand.Rand) int {
	return oneOf(d, math.MinInt, -1<<32, -2, -1, 0, 1, 2, 3, 4, 5, 6, 7, 8, 9, 10, 22, 23, 24, 299, 300, 301, 998, 999, 1000, 1<<32, math.MaxInt-1, math.MaxInt)
}

// wildVisit returns a visit that often is not valid.
func wildVisit(d *rand.Rand) api.GiVisit {
	return api.GiVisit{
		Person: oneOf(d, 0, wildInt(d)), Day: oneOf(d, 0, wildInt(d)), Kind: oneOf(d, 0, wildInt(d)),
		Lines: span(oneOf(d, 1, wildInt(d)), oneOf(d, 8, wildInt(d))), Hour: span(oneOf(d, 0, wildInt(d)), oneOf(d, 9, wildInt(d))), Sure: d.IntN(2) == 0,
	}
}

// wildFund returns a gift with things in it that are not valid.
func wildFund(d *rand.Rand) api.GiFund {
	f := anyFund(d)
	name := oneOf(d, "", "a", "ana", "x.1", "X", "\xff", "0")
	for range d.IntN(3) {
		switch d.IntN(7) {
		case 0:
			*oneOf(d, &f.Pence, &f.Days) = wildInt(d)
		case 1:
			*oneOf(d, &f.Open, &f.Late, &f.From) = wildInt(d)
		case 2:
			f.Lines = append(f.Lines, wildInt(d))
		case 3:
			f.Lines, f.People = f.Lines[:d.IntN(len(f.Lines)+1)], f.People[:d.IntN(len(f.People)+1)]
		case 4:
			f.People = append(f.People, person(name, wildInt(d)))
		case 5:
			f.Visits = append(f.Visits, wildVisit(d))
		case 6:
			f.Entries = append(f.Entries, entry(wildInt(d), wildInt(d)))
		}
	}
	return f
}

// P1, P11.15: any arguments are accepted, and all functions tell the same error of a gift
func TestAnyArguments(t *testing.T) {
	wrong, none, right := 0, 0, 0
	for seed := range uint64(4000) {
		d := dice(seed)
		f := wildFund(d)
		part, at, e := gift.Check(f)
		got := ask(f, wildInt(d), wildInt(d)).errors
		switch {
		case e != api.OK:
			wrong++
			if part == 0 || got != allErrors(e) {
				t.Errorf("%+v: Check = %d, %d, %d, errors %v", f, part, at, e, got)
			}
			continue
		case got[3] == api.ErrZero:
			none++
		default:
			right++
		}
		if part != 0 || at != 0 || got[6] != api.OK || got[4] != got[5] || got[0] != got[2] || got[0] != got[4] && got[0] != api.ErrNone || got[1] != got[4] && got[1] != api.ErrRange {
			t.Errorf("%+v: Check = %d, %d, errors %v", f, part, at, got)
		}
	}
	if wrong < 1000 || none < 150 || right < 1000 {
		t.Errorf("only %d gifts are not valid, %d have no truth, %d one", wrong, none, right)
	}
	huge := []api.GiFund{{Lines: make([]int, 1<<20)}, {People: make([]api.GiPerson, 1<<20)}, {Visits: make([]api.GiVisit, 1<<20)}, {Entries: make([]api.GiEntry, 1<<20)}}
	for i, f := range huge {
		f.Days = 1
		if i > 0 {
			f.Lines = []int{1}
		}
		if part, at, e := gift.Check(f); part != i+2 || at != 0 || e != api.ErrLong {
			t.Errorf("%d: Check = %d, %d, %d", i, part, at, e)
		}
	}
}

// P1: the gifts for which there is most to do
func TestMostWork(t *testing.T) {
	f := api.GiFund{Pence: 300, Days: 7, Open: 9, Late: 4, From: 12, Lines: []int{9, 8, 7}}
	for at := range api.MaxGiPeople {
		f.People = append(f.People, person(string(rune('a'+at)), api.GiUnknown))
	}
	for at := range api.MaxGiVisits {
		f.Visits = append(f.Visits, api.GiVisit{Person: at % 4, Day: at, Kind: at % 3, Lines: span(1, 8), Hour: span(0, 23)})
	}
	a := ask(f, 4, 6)
	if a.errors != allErrors(api.OK) || len(a.fees) != 16 || a.left != span(0, 300) || a.pays != api.May || a.ends != 3 || a.need != 85+77+69+85+77-300 || !slices.Equal(a.refuse, []int{0, 1}) {
		t.Errorf("%+v", a)
	}
	for at := range api.MaxGiEntries {
		f.Entries = append(f.Entries, entry(4, 10+at))
	}
	if l := must[[]int](t)(gift.Wrong(f)); !slices.Equal(l, []int{0, 1, 2, 3}) {
		t.Errorf("Wrong = %v", l)
	}
}
