package desk_test

import (
	"math"
	"math/rand/v2"
	"slices"
	"testing"

	"escribano/api"
	"escribano/desk"
)

// P9.4, P9.6: what there are plans for is what the tests hold for it
func TestKnownPlans(t *testing.T) {
	done, several, none, later := 0, 0, 0, 0
	eachHall(t, func(t *testing.T, d *rand.Rand, h api.DeHall) {
		sure := knownSure(h)
		want, wantOver := knownBest(h, sure)
		plan, over := bestOf(t, h)
		if !samePlan(plan, want) || over != wantOver {
			t.Errorf("Best = %v, %d, not %v, %d", plan, over, want, wantOver)
		}
		switch {
		case len(sure) > 1:
			several++
		case len(sure) == 1:
			done++
		default:
			none++
		}
		for customer := range h.Customers {
			more, want := orNever(t)(desk.Later(h, customer)), knownLater(h, customer)
			if more != want {
				t.Errorf("Later of %d = %d, not %d", customer, more, want)
			}
			if more > 0 {
				later++
			}
		}
	})
	if several < 500 || done < 300 || none < 300 || later < 300 {
		t.Errorf("only %d halls with several plans, %d with one, %d with none, %d ships that are too early", several, done, none, later)
	}
}

// P9.5: the fewest are what the tests hold for them
func TestKnownFewest(t *testing.T) {
	one, several, enough, none := 0, 0, 0, 0
	eachHall(t, func(t *testing.T, d *rand.Rand, h api.DeHall) {
		away := must[[]int](t)(desk.Away(h))
		want, _ := firstOf(len(h.Customers), func(l []int) bool { return len(knownSure(sentAway(h, l))) > 0 })
		if !slices.Equal(away, want) {
			t.Errorf("Away = %v, not %v", away, want)
		}
		switch {
		case len(away) == 1:
			one++
		case len(away) > 1:
			several++
		}
		writers, found := enoughOf(t, h)
		want, are := firstOf(len(h.Writers), func(l []int) bool { return len(knownSure(onlyWriters(h, l))) > 0 })
		if !slices.Equal(writers, want) || found != are {
			t.Errorf("Enough = %v, %t, not %v, %t", writers, found, want, are)
		}
		switch {
		case !are:
			none++
		case len(want) < len(h.Writers):
			enough++
		}
	})
	if one < 500 || several < 300 || enough < 500 || none < 500 {
		t.Errorf("only %d halls with a customer to send away, %d with several, %d that need fewer writers, %d without enough", one, several, enough, none)
	}
}

// P9.2, P9.3: what is told of a plan is what is so in all truths, of which there are not too many here
func TestKnownTruths(t *testing.T) {
	many, late := map[int]int{}, 0
	for seed := range uint64(2000) {
		d := dice(seed)
		h := anyHall(d, 1+d.IntN(2), d.IntN(4), 2)
		plan, found := anyPlan(d, h)
		if !found {
			continue
		}
		if d.IntN(2) == 0 {
			for at, minute := range sealed(h, plan, anyTruth(d, h)) {
				h = sailing(h, at, min(minute+oneOf(d, 0, 0, 1, 2), api.MaxDeMinute))
			}
		}
		ends, want, first := knownOf(h, plan)
		if l := must[[]api.Span](t)(desk.Ends(h, plan)); !slices.Equal(l, ends) {
			t.Errorf("%+v, %v: Ends = %v, not %v", h, plan, l, ends)
		}
		if fate := must[int](t)(desk.Fate(h, plan)); fate != want {
			t.Errorf("%+v, %v: Fate = %d, not %d", h, plan, fate, want)
		}
		if customer := orNever(t)(desk.Late(h, plan)); customer != first {
			t.Errorf("%+v, %v: Late = %d, not %d", h, plan, customer, first)
		}
		many[want]++
		if first > 0 {
			late++
		}
	}
	if many[api.May] < 200 || many[api.Must] < 200 || many[api.Never] < 200 || late < 200 {
		t.Errorf("only %v fates, %d later customers who are late", many, late)
	}
}

// P9.7, P6
func TestSealed(t *testing.T) {
	letters, tight := 0, 0
	eachHall(t, func(t *testing.T, d *rand.Rand, h api.DeHall) {
		plan, minute := bestOf(t, h)
		if minute == never {
			return
		}
		for range 20 {
			u := anyTruth(d, h)
			if !does(h, plan, u) || over(h, plan, u) > minute {
				t.Errorf("Best = %v, %d; %v are late, it is over at %d in %+v", plan, minute, tooLate(h, plan, u), over(h, plan, u), u)
			}
		}
		if u := latest(h); !does(h, plan, u) || over(h, plan, u) != minute {
			t.Errorf("Best = %v, %d; %v are late, it is over at %d", plan, minute, tooLate(h, plan, u), over(h, plan, u))
		}
		if how := must[int](t)(desk.Fate(h, plan)); how != api.Must {
			t.Errorf("Best = %v, its Fate = %d", plan, how)
		}
		for at, s := range must[[]api.Span](t)(desk.Ends(h, plan)) {
			letters++
			if s.Hi == h.Customers[at].Ship {
				tight++
			}
		}
	})
	if letters < 2000 || tight < 500 {
		t.Errorf("only %d letters, %d of which can be sealed just in time", letters, tight)
	}
}

// P9.8, P6
func TestFirstLate(t *testing.T) {
	late, early := 0, 0
	eachPlan(t, func(t *testing.T, d *rand.Rand, h api.DeHall, plan [][]int) {
		how, first := must[int](t)(desk.Fate(h, plan)), orNever(t)(desk.Late(h, plan))
		if (how == api.Must) != (first == never) {
			t.Errorf("Fate = %d, Late = %d", how, first)
		}
		if first == never {
			early++
			return
		}
		late++
		l := tooLate(h, plan, latest(h))
		if !slices.Contains(l, first) {
			t.Errorf("Late = %d, not one of %v", first, l)
		}
		for range 20 {
			l = append(l, tooLate(h, plan, anyTruth(d, h))...)
		}
		for _, customer := range l {
			if h.Customers[customer].Ship < h.Customers[first].Ship {
				t.Errorf("Late = %d, but the ship of %d sails first", first, customer)
			}
		}
	})
	if late < 500 || early < 300 {
		t.Errorf("only %d plans with late letters, %d without", late, early)
	}
}

// P9.9
func TestNoBetter(t *testing.T) {
	better := 0
	eachPlan(t, func(t *testing.T, d *rand.Rand, h api.DeHall, _ [][]int) {
		best, minute := bestOf(t, h)
		for range 10 {
			plan, _ := anyPlan(d, h)
			if !does(h, plan, latest(h)) {
				continue
			}
			other := over(h, plan, latest(h))
			if minute == never || other < minute || other == minute && comparePlans(plan, best) < 0 {
				t.Errorf("Best = %v, %d, but %v is over at %d", best, minute, plan, other)
			}
			if other > minute {
				better++
			}
		}
	})
	if better < 500 {
		t.Errorf("only %d plans are over later than the best one", better)
	}
}

// P9.10, P9
func TestFewest(t *testing.T) {
	writers, customers := 0, 0
	eachHall(t, func(t *testing.T, d *rand.Rand, h api.DeHall) {
		enough, found := enoughOf(t, h)
		if found != isDone(t, h) || found && !isDone(t, onlyWriters(h, enough)) {
			t.Errorf("Enough = %v, %t", enough, found)
		}
		for _, l := range subsets(len(h.Writers)) {
			if (!found || len(l) < len(enough)) && isDone(t, onlyWriters(h, l)) {
				t.Errorf("Enough = %v, %t, but %v are enough", enough, found, l)
			}
		}
		away := must[[]int](t)(desk.Away(h))
		if !isDone(t, sentAway(h, away)) {
			t.Errorf("Away = %v", away)
		}
		for _, l := range subsets(len(h.Customers)) {
			if len(l) < len(away) && isDone(t, sentAway(h, l)) {
				t.Errorf("Away = %v, but %v are enough", away, l)
			}
		}
		if found && len(enough) > 1 {
			writers++
		}
		if len(away) > 0 {
			customers++
		}
	})
	if writers < 200 || customers < 500 {
		t.Errorf("only %d halls need several writers, %d have customers to send away", writers, customers)
	}
}

// P9.11
func TestShipLater(t *testing.T) {
	later, none := 0, 0
	eachHall(t, func(t *testing.T, d *rand.Rand, h api.DeHall) {
		for customer, c := range h.Customers {
			more := orNever(t)(desk.Later(h, customer))
			if more == never {
				none++
				if isDone(t, sailing(h, customer, api.MaxDeMinute)) {
					t.Errorf("Later of %d has the error ErrDown", customer)
				}
				continue
			}
			if more < 0 || c.Ship+more > api.MaxDeMinute || !isDone(t, sailing(h, customer, c.Ship+more)) {
				t.Errorf("Later of %d = %d", customer, more)
			}
			if more == 0 {
				continue
			}
			later++
			if isDone(t, sailing(h, customer, c.Ship+more-1)) {
				t.Errorf("Later of %d = %d, but a minute less is enough", customer, more)
			}
		}
	})
	if later < 500 || none < 500 {
		t.Errorf("only %d ships have to sail later, %d cannot", later, none)
	}
}

// narrower returns a span within another one.
func narrower(d *rand.Rand, s api.Span) api.Span {
	lo := s.Lo + d.IntN(s.Hi-s.Lo+1)
	return span(lo, lo+d.IntN(s.Hi-lo+1))
}

// P9.12
func TestNarrower(t *testing.T) {
	less, firsts := 0, 0
	eachPlan(t, func(t *testing.T, d *rand.Rand, h api.DeHall, plan [][]int) {
		was := must[[]api.Span](t)(desk.Ends(h, plan))
		for writer, list := range plan {
			if len(list) == 0 {
				continue
			}
			free, talk := h.Writers[writer].Free, h.Customers[list[0]].Talk
			if s := was[list[0]]; s != span(free.Lo+talk.Lo+h.Seal, free.Hi+talk.Hi+h.Seal) {
				t.Errorf("the first letter of %d is sealed at %v", writer, s)
			}
			firsts++
		}
		n := cloned(h)
		for at, c := range h.Customers {
			n.Customers[at].Talk = narrower(d, c.Talk)
		}
		talks := must[[]api.Span](t)(desk.Ends(n, plan))
		for at, w := range h.Writers {
			n.Writers[at].Free = narrower(d, w.Free)
		}
		both := must[[]api.Span](t)(desk.Ends(n, plan))
		for at, s := range was {
			for _, is := range []api.Span{talks[at], both[at]} {
				if is.Lo < s.Lo || is.Hi > s.Hi || is.Lo > is.Hi {
					t.Errorf("Ends of %d: %v, then %v", at, s, is)
				}
				if is != s {
					less++
				}
			}
		}
	})
	if less < 1000 || firsts < 1000 {
		t.Errorf("only %d ends are narrower, %d letters are first", less, firsts)
	}
}

// easier returns a hall in which something is easier.
func easier(d *rand.Rand, h api.DeHall) api.DeHall {
	h = cloned(h)
	switch d.IntN(4) {
	case 0:
		if len(h.Writers) < api.MaxDeWriters {
			w := writer("w", d.IntN(api.MaxDeKinds+1), 0, d.IntN(30))
			h.Writers = slices.Insert(h.Writers, d.IntN(len(h.Writers)+1), w)
		}
	case 1:
		h.Seal = d.IntN(h.Seal + 1)
	case 2:
		if len(h.Writers) > 0 {
			h.Writers[d.IntN(len(h.Writers))].Kinds |= d.IntN(api.MaxDeKinds + 1)
		}
	case 3:
		if len(h.Customers) > 0 {
			s := &h.Customers[d.IntN(len(h.Customers))].Talk
			s.Hi = s.Lo + d.IntN(s.Hi-s.Lo+1)
		}
	}
	return h
}

// P9.13
func TestEasier(t *testing.T) {
	earlier, fewer, less, found := 0, 0, 0, 0
	eachHall(t, func(t *testing.T, d *rand.Rand, h api.DeHall) {
		n := easier(d, h)
		_, was := bestOf(t, h)
		_, is := bestOf(t, n)
		if was != never && (is == never || is > was) {
			t.Errorf("over at %d, then at %d in %+v", was, is, n)
		}
		away, then := must[[]int](t)(desk.Away(h)), must[[]int](t)(desk.Away(n))
		if len(then) > len(away) {
			t.Errorf("Away = %v, then %v in %+v", away, then, n)
		}
		writers, can := enoughOf(t, h)
		still, does := enoughOf(t, n)
		if can && (!does || len(still) > len(writers)) {
			t.Errorf("Enough = %v, then %v in %+v", writers, still, n)
		}
		if was != never && is < was {
			earlier++
		}
		if was == never && is != never {
			found++
		}
		if len(then) < len(away) {
			fewer++
		}
		if can && len(still) < len(writers) {
			less++
		}
	})
	if earlier < 200 || fewer < 100 || less < 20 || found < 100 {
		t.Errorf("only %d are over earlier, %d with fewer customers away, %d with fewer writers, %d that can be done now", earlier, fewer, less, found)
	}
}

// P9.14
func TestByTheirShips(t *testing.T) {
	other := 0
	eachHall(t, func(t *testing.T, d *rand.Rand, h api.DeHall) {
		for _, plan := range knownSure(h) {
			o := ordered(h, plan)
			if samePlan(plan, o) {
				continue
			}
			other++
			if how := must[int](t)(desk.Fate(h, plan)); how != api.Must {
				t.Errorf("Fate of %v = %d", plan, how)
			}
			if how := must[int](t)(desk.Fate(h, o)); how != api.Must {
				t.Errorf("Fate of %v, which is %v by their ships, = %d", o, plan, how)
			}
		}
	})
	if other < 2000 {
		t.Errorf("only %d plans are not in the order of the ships", other)
	}
}

// P9.15: arguments stay as they are, and what lies behind them too
func TestNotModified(t *testing.T) {
	eachPlan(t, func(t *testing.T, d *rand.Rand, h api.DeHall, plan [][]int) {
		writers := append(slices.Clone(h.Writers), make([]api.DeWriter, 3)...)
		customers := append(slices.Clone(h.Customers), make([]api.DeCustomer, 3)...)
		h.Writers, h.Customers = writers[:len(h.Writers)], customers[:len(h.Customers)]
		plan = append(plan, []int{-7}, []int{-7})[:len(plan)]
		for at, list := range plan {
			plan[at] = append(slices.Clone(list), -7, -7)[:len(list)]
		}
		was, wasPlan := cloned(h), clonedPlan(plan)
		a := arguments{plan, 0}
		first := errors(h, a)
		if !sameHall(h, was) || !samePlan(plan, wasPlan) ||
			slices.ContainsFunc(writers[len(h.Writers):], func(w api.DeWriter) bool { return w != api.DeWriter{} }) ||
			slices.ContainsFunc(customers[len(h.Customers):], func(c api.DeCustomer) bool { return c != api.DeCustomer{} }) ||
			slices.ContainsFunc(plan[:len(plan)+2][len(plan):], func(l []int) bool { return !slices.Equal(l, []int{-7}) }) ||
			slices.ContainsFunc(plan, func(l []int) bool { return !slices.Equal(l[len(l):len(l)+2], []int{-7, -7}) }) {
			t.Error("an argument was modified")
		}
		if again := errors(h, a); again != first {
			t.Errorf("errors %v, then %v", first, again)
		}
	})
}

// P9.15: a result is new memory, and nothing is kept between calls
func TestNewMemory(t *testing.T) {
	h := plain(0, 2, waits{2, 4}, waits{3, 5}, waits{2, 4}, waits{2, 5})
	bad := with(h, customer("y", 0, 9, 9, 0), customer("z", 0, 9, 9, 0))
	bad.Customers = bad.Customers[1:]
	results := func() [][]int {
		plan, _ := bestOf(t, h)
		enough, _ := enoughOf(t, h)
		return append(slices.Clone(plan), enough, must[[]int](t)(desk.Away(bad)))
	}
	once, twice := results(), results()
	for i, l := range once {
		if len(l) < 2 {
			t.Errorf("%d: %v is short", i, l)
		}
		for at := range l {
			l[at] = 77
		}
		// what lies behind a list is not the memory of another one
		_ = append(l, 88)
		if slices.Contains(twice[i], 77) {
			t.Errorf("%d: memory is shared", i)
		}
	}
	for i, l := range results() {
		if !slices.Equal(l, twice[i]) {
			t.Errorf("%d: %v, then %v", i, twice[i], l)
		}
		if slices.Contains(once[i], 88) {
			t.Errorf("%d: memory of two lists is shared", i)
		}
	}
	ends := must[[]api.Span](t)(desk.Ends(h, twice[:2]))
	ends[0] = span(77, 77)
	if again := must[[]api.Span](t)(desk.Ends(h, twice[:2])); again[0] == ends[0] {
		t.Error("memory of Ends is shared")
	}
}

// wildInt returns a number, often one that is just at a limit or far beyond it.
func wildInt(d *rand.Rand) int {
	return oneOf(d, math.MinInt, -1<<32, -2, -1, 0, 1, 2, 3, 4, 5, 6, 15, 16, 30, 31, 239, 240, 241, 1<<32, math.MaxInt-1, math.MaxInt)
}

// wildHall returns a hall with things in it that are not valid.
func wildHall(d *rand.Rand) api.DeHall {
	h := anyHall(d, 1+d.IntN(3), 1+d.IntN(4), 3)
	name := oneOf(d, "", "a", "x", "x.1", "X", "\xff", "0")
	for range d.IntN(3) {
		switch d.IntN(6) {
		case 0:
			h.Seal = wildInt(d)
		case 1:
			h.Writers = append(h.Writers, writer(name, wildInt(d), wildInt(d), wildInt(d)))
		case 2:
			h.Writers[0].Free = span(wildInt(d), wildInt(d))
		case 3:
			h.Writers[0].Kinds = wildInt(d)
		case 4:
			h.Customers = append(h.Customers, customer(name, wildInt(d), wildInt(d), wildInt(d), wildInt(d)))
		case 5:
			h.Customers[0] = customer("c", wildInt(d)&3, wildInt(d), wildInt(d), wildInt(d))
		}
	}
	return h
}

// wildPlan returns a plan that is often none.
func wildPlan(d *rand.Rand, h api.DeHall) [][]int {
	plan := make([][]int, max(len(h.Writers)+oneOf(d, -1, 0, 0, 0, 1), 0))
	for at := range plan {
		for range d.IntN(4) {
			plan[at] = append(plan[at], oneOf(d, d.IntN(len(h.Customers)), wildInt(d)))
		}
	}
	return plan
}

// P1, P9.15: any arguments are accepted, and all functions tell the same error of a hall
func TestAnyArguments(t *testing.T) {
	wrong, bad := 0, 0
	for seed := range uint64(4000) {
		d := dice(seed)
		h := wildHall(d)
		part, at, e := desk.Check(h)
		got := errors(h, arguments{wildPlan(d, h), wildInt(d)})
		if e != api.OK {
			wrong++
			if part == 0 || got != allErrors(e) {
				t.Errorf("%+v: Check = %d, %d, %d, errors %v", h, part, at, e, got)
			}
			continue
		}
		if part != 0 || at != 0 || got[3] != got[4] || got[3] != api.OK && got[3] != api.ErrDown || got[5] != api.OK || got[0] != got[1] {
			t.Errorf("%+v: Check = %d, %d, errors %v", h, part, at, got)
		}
		if got[0] != api.OK {
			bad++
			if got[2] != got[0] {
				t.Errorf("%+v: errors %v", h, got)
			}
		}
	}
	if wrong < 1000 || bad < 1000 {
		t.Errorf("only %d halls are not valid, %d plans are none", wrong, bad)
	}
	huge := []api.DeHall{{Writers: make([]api.DeWriter, 1<<20)}, {Customers: make([]api.DeCustomer, 1<<20)}}
	for i, want := range []int{2, 3} {
		if part, at, e := desk.Check(huge[i]); part != want || at != 0 || e != api.ErrLong {
			t.Errorf("%d: Check = %d, %d, %d", i, part, at, e)
		}
	}
	h := plain(0, 2, waits{1, 1})
	for i, c := range []struct {
		plan [][]int
		e    api.Errno
	}{{make([][]int, 1<<20), api.ErrLong}, {[][]int{nil, make([]int, 1<<20)}, api.ErrTwice}, {[][]int{append(make([]int, 1<<20), 1), nil}, api.ErrNone}} {
		if got := errors(h, arguments{c.plan, 0}); [3]api.Errno(got[:3]) != [3]api.Errno{c.e, c.e, c.e} {
			t.Errorf("%d: errors %v", i, got)
		}
	}
}

// P1: the halls for which there is most to do
func TestMostWork(t *testing.T) {
	h := plain(0, 3, waits{1, 240}, waits{2, 240}, waits{4, 240}, waits{8, 240}, waits{16, 240})
	if plan, over := bestOf(t, h); !samePlan(plan, [][]int{nil, {0, 1, 2, 3}, {4}}) || over != 16 {
		t.Errorf("Best = %v, %d", plan, over)
	}
	h.Customers[2].Ship = 0
	for customer, want := range []int{never, never, 4, never, never} {
		if more := orNever(t)(desk.Later(h, customer)); more != want {
			t.Errorf("Later of %d = %d", customer, more)
		}
	}
	if enough, found := enoughOf(t, h); found {
		t.Errorf("Enough = %v", enough)
	}
	if away := must[[]int](t)(desk.Away(h)); !slices.Equal(away, []int{2}) {
		t.Errorf("Away = %v", away)
	}
}
