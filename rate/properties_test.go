package rate_test

import (
	"math"
	"math/rand/v2"
	"slices"
	"testing"

	"escribano/api"
	"escribano/rate"
)

// somePence and someFar are pence for which Worth and Send are asked.
func somePence() []int { return []int{0, 1, 2, 5, 11, 26, 55, 98, 99} }

func someFar() []int { return []int{0, 1, 2, 9, 30, 71, 120, 158, 198} }

// P8.2, P8.3: all truths are what the tests hold for them
func TestKnownTruths(t *testing.T) {
	houses, truths, never, paid := 0, 0, 0, 0
	eachHouse(t, func(t *testing.T, d *rand.Rand, h api.RaHouse) {
		known := knownTruths(h)
		if len(known) == 0 {
			never++
			if _, _, e := rate.First(h); e != api.ErrZero {
				t.Errorf("First's error is %d", e)
			}
			return
		}
		first, many := mustTwo[[]int, int](t)(rate.First(h))
		if !slices.Equal(first, known[0]) || many != len(known) {
			t.Errorf("First = %v, %d, not %v, %d", first, many, known[0], len(known))
		}
		for day, s := range ratesOf(t, h) {
			if want := knownSpan(known, func(rates []int) int { return rates[day] }); s != want {
				t.Errorf("Rate of %d = %v, not %v", day, s, want)
			}
			for who, a := range h.Agents {
				near := d.IntN(api.MaxRaPence + 1)
				want := knownSpan(known, func(rates []int) int { return knownPays(a, near, rates[day]) })
				if s := must[api.Span](t)(rate.Worth(h, who, day, near)); s != want {
					t.Errorf("Worth of %d by %d on %d = %v, not %v", near, who, day, s, want)
				}
			}
		}
		for who := range h.Agents {
			want := knownSpan(known, func(rates []int) int { return knownPaid(h, who, rates) })
			if s := must[api.Span](t)(rate.Paid(h, who)); s != want {
				t.Errorf("Paid of %d = %v, not %v", who, s, want)
			}
			if want.Lo < want.Hi {
				paid++
			}
		}
		houses++
		truths += len(known)
	})
	if houses < 2000 || truths < 15000 || never < 500 || paid < 500 {
		t.Errorf("only %d houses with %d truths, %d without one, %d spans paid", houses, truths, never, paid)
	}
}

// P8.4: Agree is what the tests hold for it
func TestKnownAgree(t *testing.T) {
	many := map[int]int{}
	eachHouse(t, func(t *testing.T, d *rand.Rand, h api.RaHouse) {
		for at, x := range h.Entries {
			known := knownTruths(without(h, at))
			so := 0
			for _, rates := range known {
				if knownFar(h, x, rates) == x.Far {
					so++
				}
			}
			want := api.May
			switch {
			case x.Far == untold:
				want = -1
			case len(known) == 0:
				want = -2
			case so == 0:
				want = api.Never
			case so == len(known):
				want = api.Must
			}
			if how := agreed(t, h, at); how != want {
				t.Errorf("Agree of %d = %d, not %d", at, how, want)
			}
			many[want]++
		}
	})
	for _, how := range []int{api.May, api.Must, api.Never, -1, -2} {
		if many[how] < 100 {
			t.Errorf("only %d entries of %d", many[how], how)
		}
	}
}

// P8.5, P8.8, P5, P9: the entries of Wrong are what the tests hold for them
func TestKnownWrong(t *testing.T) {
	none, some, several, down := 0, 0, 0, 0
	eachHouse(t, func(t *testing.T, d *rand.Rand, h api.RaHouse) {
		out, e := rate.Wrong(h)
		for _, l := range subsets(len(h.Entries)) {
			if len(knownTruths(without(h, l...))) == 0 {
				continue
			}
			if !slices.Equal(out, l) || e != api.OK {
				t.Errorf("Wrong = %v, %d, not %v", out, e, l)
			}
			switch len(l) {
			case 0:
				none++
			case 1:
				some++
			default:
				several++
			}
			return
		}
		down++
		if len(out) > 0 || e != api.ErrDown {
			t.Errorf("Wrong = %v, %d", out, e)
		}
	})
	if none < 1000 || some < 200 || several < 50 || down < 50 {
		t.Errorf("only %d houses with nothing wrong, %d with one entry, %d with several, %d without any truth", none, some, several, down)
	}
}

// P8.7, P5
func TestBothBooks(t *testing.T) {
	told, paid := 0, 0
	for seed := range uint64(2000) {
		rates, h := anyBooks(dice(seed))
		first, many := mustTwo[[]int, int](t)(rate.First(h))
		if many < 1 || slices.Compare(first, rates) > 0 {
			t.Errorf("%+v: First = %v, %d, not %v", h, first, many, rates)
		}
		for day, s := range ratesOf(t, h) {
			if rates[day] < s.Lo || rates[day] > s.Hi {
				t.Errorf("%+v: Rate of %d = %v, not %d", h, day, s, rates[day])
			}
		}
		if out := must[[]int](t)(rate.Wrong(h)); len(out) > 0 {
			t.Errorf("%+v: Wrong = %v", h, out)
		}
		for at, x := range h.Entries {
			how := agreed(t, h, at)
			if x.Far != untold && how != api.May && how != api.Must || x.Far == untold && how != -1 {
				t.Errorf("%+v: Agree of %d = %d", h, at, how)
			}
			if x.Far != untold {
				told++
			}
		}
		for who := range h.Agents {
			s, pence := must[api.Span](t)(rate.Paid(h, who)), knownPaid(h, who, rates)
			if pence < s.Lo || pence > s.Hi {
				t.Errorf("%+v: Paid of %d = %v, not %d", h, who, s, pence)
			}
			if pence > 0 {
				paid++
			}
		}
	}
	if told < 1500 || paid < 1500 {
		t.Errorf("only %d entries are told, %d agents have paid", told, paid)
	}
}

// P8.8, P9
func TestWithoutWrong(t *testing.T) {
	wrong, fewer := 0, 0
	eachHouse(t, func(t *testing.T, d *rand.Rand, h api.RaHouse) {
		out, e := rate.Wrong(h)
		if e != api.OK {
			return
		}
		if _, _, e := rate.First(without(h, out...)); e != api.OK {
			t.Errorf("without %v First has the error %d", out, e)
		}
		if len(out) > 0 {
			wrong++
		}
		for _, l := range subsets(len(h.Entries)) {
			if len(l) >= len(out) {
				break
			}
			fewer++
			if _, _, e := rate.First(without(h, l...)); e != api.ErrZero {
				t.Errorf("Wrong = %v, but without %v First has the error %d", out, l, e)
			}
		}
	})
	if wrong < 300 || fewer < 500 {
		t.Errorf("only %d houses with wrong entries, %d lists of fewer", wrong, fewer)
	}
}

// P8.9
func TestOneMoreEntry(t *testing.T) {
	more, better, worse := 0, 0, 0
	eachHouse(t, func(t *testing.T, d *rand.Rand, h api.RaHouse) {
		if len(h.Agents) == 0 || len(h.Entries) == api.MaxRaEntries {
			return
		}
		rates := make([]int, h.Days)
		for day, s := range h.Rates {
			rates[day] = s.Lo + d.IntN(s.Hi-s.Lo+1)
		}
		n := with(h, anyEntry(d, h, rates))
		was, is := wrongIn(t, h), wrongIn(t, n)
		if is < was {
			t.Errorf("%d entries are wrong, then %d with %+v", was, is, n)
		}
		if is > was {
			worse++
		}
		_, many, e := rate.First(h)
		_, left, f := rate.First(n)
		if left > many || e != api.OK && f == api.OK {
			t.Errorf("%d truths, then %d with %+v", many, left, n)
		}
		if f != api.OK {
			return
		}
		more++
		if !areWithin(ratesOf(t, n), ratesOf(t, h)) {
			t.Errorf("Rate = %v, then %v with %+v", ratesOf(t, h), ratesOf(t, n), n)
		}
		if left < many {
			better++
		}
	})
	if more < 500 || better < 200 || worse < 100 {
		t.Errorf("only %d entries, %d that tell more, %d with which more are wrong", more, better, worse)
	}
}

// P8.6, P8.10, P5
func TestSurelyPaid(t *testing.T) {
	enough, none := 0, 0
	eachTrueHouse(t, func(t *testing.T, d *rand.Rand, h api.RaHouse) {
		known := knownTruths(h)
		day, far := d.IntN(h.Days), oneOf(d, d.IntN(20), d.IntN(100), d.IntN(api.MaxRaFar+1))
		s, want := sendBy(t, h, day, far), sent{-1, -1}
	pence:
		for near := range api.MaxRaPence + 1 {
			for who := range h.Agents {
				if surelyPays(h, known, who, day, near, far) {
					want = sent{who, near}
					break pence
				}
			}
		}
		if s != want {
			t.Errorf("Send of %d on %d = %v, not %v", far, day, s, want)
		}
		if s.near < 0 {
			none++
			return
		}
		enough++
		if w := must[api.Span](t)(rate.Worth(h, s.agent, day, s.near)); w.Lo < far {
			t.Errorf("Send of %d on %d = %v, which is worth %v", far, day, s, w)
		}
		for who := range h.Agents {
			if w := must[api.Span](t)(rate.Worth(h, who, day, max(s.near-1, 0))); s.near > 0 && w.Lo >= far {
				t.Errorf("Send of %d on %d = %v, but %d pays %v for less", far, day, s, who, w)
			}
		}
	})
	if enough < 500 || none < 200 {
		t.Errorf("only %d sums can be sent, %d cannot", enough, none)
	}
}

// P8.11
func TestRoundings(t *testing.T) {
	differ := 0
	eachTrueHouse(t, func(t *testing.T, d *rand.Rand, h api.RaHouse) {
		h.Entries = nil
		fee, less := d.IntN(api.MaxRaFee+1), 0
		if fee > 0 {
			less = d.IntN(fee)
		}
		worth := func(fee, day, near int) [3]api.Span {
			h.Agents = []api.RaAgent{agent("a", fee, api.RaDown), agent("b", fee, api.RaUp), agent("c", fee, api.RaNear)}
			var l [3]api.Span
			for who := range l {
				l[who] = must[api.Span](t)(rate.Worth(h, who, day, near))
			}
			return l
		}
		isLess := func(s, o api.Span) bool { return s.Lo < o.Lo || s.Hi < o.Hi }
		for day := range h.Days {
			near := d.IntN(api.MaxRaPence)
			is := worth(fee, day, near)
			down, up, nearest := is[api.RaDown], is[api.RaUp], is[api.RaNear]
			if isLess(up, nearest) || isLess(nearest, down) || up.Lo > down.Lo+1 || up.Hi > down.Hi+1 {
				t.Errorf("down %v, up %v, near %v", down, up, nearest)
			}
			if down != up {
				differ++
			}
			lesser, more := worth(less, day, near), worth(fee, day, near+1)
			for who, s := range is {
				if isLess(lesser[who], s) || isLess(more[who], s) {
					t.Errorf("%d pays %v, %v with the fee %d, %v for a penny more", who, s, lesser[who], less, more[who])
				}
			}
		}
	})
	if differ < 1000 {
		t.Errorf("only %d sums are rounded", differ)
	}
}

// P8.12
func TestPaidTogether(t *testing.T) {
	mixed := 0
	eachTrueHouse(t, func(t *testing.T, d *rand.Rand, h api.RaHouse) {
		for who := range h.Agents {
			var sum api.Span
			told, worth := 0, 0
			for _, x := range h.Entries {
				if x.Agent != who {
					continue
				}
				s := span(x.Far, x.Far)
				if x.Far == untold {
					s = must[api.Span](t)(rate.Worth(h, who, x.Day, x.Near))
					worth++
				} else {
					told++
				}
				sum = span(sum.Lo+s.Lo, sum.Hi+s.Hi)
			}
			s := must[api.Span](t)(rate.Paid(h, who))
			if s.Lo < sum.Lo || s.Hi > sum.Hi {
				t.Errorf("Paid of %d = %v, not within %v", who, s, sum)
			}
			if worth < 2 && s != sum {
				t.Errorf("Paid of %d = %v, not %v", who, s, sum)
			}
			if told > 0 && worth > 0 {
				mixed++
			}
		}
	})
	if mixed < 300 {
		t.Errorf("only %d agents with told and untold entries", mixed)
	}
}

// P8.13
func TestWider(t *testing.T) {
	steps, spans, fewer, same := 0, 0, 0, 0
	eachHouse(t, func(t *testing.T, d *rand.Rand, h api.RaHouse) {
		far, wide := h, cloned(h)
		far.Step = min(h.Step+1+d.IntN(3), api.MaxRaRate)
		for day, s := range h.Rates {
			wide.Rates[day] = span(isRate(s.Lo-d.IntN(3)), isRate(s.Hi+d.IntN(3)))
		}
		was := wrongIn(t, h)
		for _, n := range []api.RaHouse{far, wide} {
			is := wrongIn(t, n)
			if is > was {
				t.Errorf("%d entries are wrong, then %d in %+v", was, is, n)
			}
			if is < was {
				fewer++
			}
			if was == 0 && !areWithin(ratesOf(t, h), ratesOf(t, n)) {
				t.Errorf("Rate = %v, then %v in %+v", ratesOf(t, h), ratesOf(t, n), n)
			}
		}
		if was == 0 && !slices.Equal(ratesOf(t, h), ratesOf(t, far)) {
			steps++
		}
		if was == 0 && !slices.Equal(ratesOf(t, h), ratesOf(t, wide)) {
			spans++
		}
		h.Step = 0
		if wrongIn(t, h) == 0 {
			first, _ := mustTwo[[]int, int](t)(rate.First(h))
			if rates := ratesOf(t, h); len(slices.Compact(first)) != 1 || len(slices.Compact(rates)) != 1 {
				t.Errorf("with the Step 0 First = %v, Rate = %v", first, rates)
			}
			if h.Days > 1 {
				same++
			}
		}
	})
	if steps < 100 || spans < 300 || fewer < 100 || same < 200 {
		t.Errorf("only %d greater steps, %d wider spans, %d with fewer wrong entries, %d houses with the step 0", steps, spans, fewer, same)
	}
}

// answers are the results of all functions but Check, for all days, agents and entries; without a truth only those of Agree and Wrong.
type answers struct {
	many                     int
	agree, wrong             []int
	rates, worth, paid, send []api.Span
	e                        api.Errno
}

// ask calls all functions but Check; the days are asked for from the last one on if it is turned.
func ask(t *testing.T, h api.RaHouse, isTurned bool) answers {
	t.Helper()
	a := answers{}
	for at := range h.Entries {
		a.agree = append(a.agree, agreed(t, h, at))
	}
	a.wrong, _ = rate.Wrong(h)
	_, a.many, a.e = rate.First(h)
	if a.e != api.OK {
		return a
	}
	for who := range h.Agents {
		a.paid = append(a.paid, must[api.Span](t)(rate.Paid(h, who)))
	}
	for day := range h.Days {
		if isTurned {
			day = h.Days - 1 - day
		}
		a.rates = append(a.rates, must[api.Span](t)(rate.Rate(h, day)))
		for who := range h.Agents {
			for _, near := range somePence() {
				a.worth = append(a.worth, must[api.Span](t)(rate.Worth(h, who, day, near)))
			}
		}
		for _, far := range someFar() {
			s := sendBy(t, h, day, far)
			a.send = append(a.send, span(s.agent, s.near))
		}
	}
	return a
}

// turned is a house whose days come in the other order.
func turned(h api.RaHouse) api.RaHouse {
	h = cloned(h)
	slices.Reverse(h.Rates)
	for at, x := range h.Entries {
		h.Entries[at].Day = h.Days - 1 - x.Day
	}
	return h
}

// P8.14
func TestOtherWay(t *testing.T) {
	several := 0
	eachHouse(t, func(t *testing.T, d *rand.Rand, h api.RaHouse) {
		was, is := ask(t, h, false), ask(t, turned(h), true)
		if was.many != is.many || was.e != is.e || !slices.Equal(was.agree, is.agree) || !slices.Equal(was.wrong, is.wrong) || !slices.Equal(was.rates, is.rates) ||
			!slices.Equal(was.worth, is.worth) || !slices.Equal(was.paid, is.paid) || !slices.Equal(was.send, is.send) {
			t.Errorf("%+v, then %+v", was, is)
		}
		if was.many == 1 {
			first, _ := mustTwo[[]int, int](t)(rate.First(h))
			last, _ := mustTwo[[]int, int](t)(rate.First(turned(h)))
			if slices.Reverse(last); !slices.Equal(first, last) {
				t.Errorf("First = %v, then %v", first, last)
			}
		}
		if was.e == api.OK && h.Days > 1 && len(h.Entries) > 1 {
			several++
		}
	})
	if several < 500 {
		t.Errorf("only %d houses with several days", several)
	}
}

// P8.15: arguments stay as they are, and what lies behind them too
func TestNotModified(t *testing.T) {
	eachHouse(t, func(t *testing.T, d *rand.Rand, h api.RaHouse) {
		rates := append(slices.Clone(h.Rates), make([]api.Span, 3)...)
		agents := append(slices.Clone(h.Agents), make([]api.RaAgent, 3)...)
		entries := append(slices.Clone(h.Entries), make([]api.RaEntry, 3)...)
		h.Rates, h.Agents, h.Entries = rates[:len(h.Rates)], agents[:len(h.Agents)], entries[:len(h.Entries)]
		was := cloned(h)
		a := arguments{0, 0, 0, 50, 50}
		first := errors(h, a)
		if !sameHouse(h, was) || slices.ContainsFunc(rates[len(h.Rates):], func(s api.Span) bool { return s != api.Span{} }) ||
			slices.ContainsFunc(agents[len(h.Agents):], func(a api.RaAgent) bool { return a != api.RaAgent{} }) ||
			slices.ContainsFunc(entries[len(h.Entries):], func(x api.RaEntry) bool { return x != api.RaEntry{} }) {
			t.Error("an argument was modified")
		}
		if again := errors(h, a); again != first {
			t.Errorf("errors %v, then %v", first, again)
		}
	})
}

// P8.15: a result is new memory, and nothing is kept between calls
func TestNewMemory(t *testing.T) {
	h := plain(20, span(3, 5), span(4, 6), span(5, 7))
	bad := with(h, entry(0, 0, 10, 3), entry(0, 0, 10, 4), entry(0, 0, 10, 5))
	results := func() [][]int {
		first, _, e := rate.First(h)
		if e != api.OK {
			t.Fatalf("error %d", e)
		}
		return [][]int{first, must[[]int](t)(rate.Wrong(bad))}
	}
	once, twice := results(), results()
	for i, l := range once {
		if len(l) < 2 {
			t.Errorf("%d: %v is short", i, l)
		}
		for at := range l {
			l[at] = 77
		}
		if slices.Contains(twice[i], 77) {
			t.Errorf("%d: memory is shared", i)
		}
	}
	for i, l := range results() {
		if !slices.Equal(l, twice[i]) {
			t.Errorf("%d: %v, then %v", i, twice[i], l)
		}
	}
}

// wildInt returns a number, often one that is just at a limit or far beyond it.
func wildInt(d *rand.Rand) int {
	return oneOf(d, math.MinInt, -1<<32, -2, -1, 0, 1, 2, 3, 4, 19, 20, 21, 98, 99, 100, 198, 199, 1<<32, math.MaxInt-1, math.MaxInt)
}

// wildHouse returns a house with things in it that are not valid.
func wildHouse(d *rand.Rand) api.RaHouse {
	h := anyHouse(d)
	for range d.IntN(3) {
		switch d.IntN(7) {
		case 0:
			h.Days = wildInt(d)
		case 1:
			h.Rates = append(h.Rates, span(wildInt(d), wildInt(d)))
		case 2:
			h.Rates[d.IntN(len(h.Rates))] = span(wildInt(d), wildInt(d))
		case 3:
			h.Step = wildInt(d)
		case 4:
			h.Agents = append(h.Agents, agent(oneOf(d, "", "a", "x", "x.1", "X", "\xff", "0"), wildInt(d), wildInt(d)))
		case 5:
			h.Agents = h.Agents[:d.IntN(len(h.Agents)+1)]
		case 6:
			h.Entries = append(h.Entries, entry(wildInt(d), wildInt(d), wildInt(d), wildInt(d)))
		}
	}
	return h
}

// P1, P8.15: any arguments are accepted, and all functions tell the same error of a house
func TestAnyArguments(t *testing.T) {
	wrong := 0
	for seed := range uint64(4000) {
		d := dice(seed)
		h := wildHouse(d)
		part, at, e := rate.Check(h)
		got := errors(h, arguments{wildInt(d), wildInt(d), wildInt(d), wildInt(d), wildInt(d)})
		if e == api.OK {
			if part != 0 || at != 0 || got[0] != api.OK && got[0] != api.ErrZero || got[4] != api.OK && got[4] != api.ErrDown {
				t.Errorf("%+v: Check = %d, %d, errors %v", h, part, at, got)
			}
			continue
		}
		wrong++
		if part == 0 || got != allErrors(e) {
			t.Errorf("%+v: Check = %d, %d, %d, errors %v", h, part, at, e, got)
		}
	}
	if wrong < 1000 {
		t.Errorf("only %d houses are not valid", wrong)
	}
	one := []api.Span{span(1, 20)}
	huge := []api.RaHouse{
		{Days: 1, Rates: make([]api.Span, 1<<20)},
		{Days: 1, Rates: one, Agents: make([]api.RaAgent, 1<<20)},
		{Days: 1, Rates: one, Entries: make([]api.RaEntry, 1<<20)},
	}
	for i, want := range []int{2, 4, 5} {
		if part, at, e := rate.Check(huge[i]); part != want || at != 0 || e != api.ErrLong {
			t.Errorf("%d: Check = %d, %d, %d", i, part, at, e)
		}
	}
}

// P1: the houses for which there is most to do
func TestMostWork(t *testing.T) {
	all := span(1, 20)
	h := plain(20, all, all, all)
	for at := range api.MaxRaEntries {
		h = with(h, entry(at%2, at%3, 99, untold))
	}
	if first, many := mustTwo[[]int, int](t)(rate.First(h)); !slices.Equal(first, []int{1, 1, 1}) || many != 8000 {
		t.Errorf("First = %v, %d", first, many)
	}
	if one, two := must[api.Span](t)(rate.Paid(h, 0)), must[api.Span](t)(rate.Paid(h, 1)); one != span(27, 594) || two != span(20, 396) {
		t.Errorf("Paid = %v, %v", one, two)
	}
	if s := sendBy(t, h, 2, 198); s != (sent{-1, -1}) {
		t.Errorf("Send = %v", s)
	}
	for at := range h.Entries {
		h.Entries[at] = entry(at%2, 2, 99, 195+at%2)
	}
	if l := must[[]int](t)(rate.Wrong(h)); !slices.Equal(l, []int{0, 1, 2, 3, 4}) {
		t.Errorf("Wrong = %v", l)
	}
}
