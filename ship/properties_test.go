package ship_test

import (
	"math"
	"math/rand/v2"
	"slices"
	"testing"

	"escribano/api"
	"escribano/ship"
)

// knownDays returns the days on which a ship calls at a port in truths, and whether it does.
func knownDays(h api.ShHarbour, known []truth, ship, port int) (api.Span, int) {
	days := api.Span{Lo: never, Hi: -1}
	for _, x := range known {
		if day := x.day(h, ship, port); day < never {
			days = api.Span{Lo: min(days.Lo, day), Hi: max(days.Hi, day)}
		}
	}
	if days.Hi < 0 {
		return api.Span{}, api.Never
	}
	return days, over(known, func(x truth) bool { return x.day(h, ship, port) < never })
}

// P4.2, P4.3: days, and ships that sink, are what the tests hold for them
func TestKnownCallsAndSunk(t *testing.T) {
	hows := map[int]int{}
	eachHarbour(t, func(t *testing.T, d *rand.Rand, h api.ShHarbour) {
		known := knownTruths(h)
		var sure, may []int
		for s := range h.Ships {
			how := over(known, func(x truth) bool { return x.sinks(h, s) })
			if how == api.Must {
				sure = append(sure, s)
			}
			if how != api.Never {
				may = append(may, s)
			}
			for port := range h.Ports {
				days, how, e := ship.Calls(h, s, port)
				if len(known) == 0 {
					if e != api.ErrZero {
						t.Errorf("Calls = %v, %d, %d", days, how, e)
					}
					continue
				}
				if want, is := knownDays(h, known, s, port); days != want || how != is || e != api.OK {
					t.Errorf("Calls of %d, %d = %v, %d, %d, not %v, %d", s, port, days, how, e, want, is)
				}
				hows[how]++
			}
		}
		one, other, e := ship.Sunk(h)
		if len(known) == 0 {
			if e != api.ErrZero {
				t.Errorf("Sunk = %v, %v, %d", one, other, e)
			}
		} else if !slices.Equal(one, sure) || !slices.Equal(other, may) || e != api.OK {
			t.Errorf("Sunk = %v, %v, %d, not %v, %v", one, other, e, sure, may)
		}
	})
	if hows[api.May] < 200 || hows[api.Must] < 200 || hows[api.Never] < 200 {
		t.Errorf("only %v calls", hows)
	}
}

// P4.4, P4.5: what is told of letters is what the tests hold for it
func TestKnownLetters(t *testing.T) {
	comes, befores := map[int]int{}, map[int]int{}
	eachTrueHarbour(t, func(t *testing.T, d *rand.Rand, h api.ShHarbour, known []truth) {
		for one := range h.Letters {
			for day := range 20 {
				want := over(known, func(x truth) bool { return x.comes(h, one) <= day })
				if how := must[int](t)(ship.Come(h, one, day)); how != want {
					t.Errorf("Come of %d until %d = %d, not %d", one, day, how, want)
				}
				comes[want]++
			}
			var by []int
			for s := range h.Ships {
				if slices.ContainsFunc(known, func(x truth) bool { return x.by[one] == s }) {
					by = append(by, s)
				}
			}
			if l := must[[]int](t)(ship.By(h, one)); !slices.Equal(l, by) {
				t.Errorf("By of %d = %v, not %v", one, l, by)
			}
			for other := range h.Letters {
				if one == other {
					continue
				}
				want := over(known, func(x truth) bool { return x.comes(h, one) < x.comes(h, other) })
				if how := must[int](t)(ship.Before(h, one, other)); how != want {
					t.Errorf("Before of %d, %d = %d, not %d", one, other, how, want)
				}
				befores[want]++
			}
		}
	})
	for _, how := range []int{api.May, api.Must, api.Never} {
		if comes[how] < 200 || befores[how] < 20 {
			t.Errorf("only %v and %v letters", comes, befores)
		}
	}
}

// P4.7, P4.11, P6: the ship of Send brings a letter until its day in each truth, and no other one surely sooner
func TestSent(t *testing.T) {
	sent, down := 0, 0
	eachTrueHarbour(t, func(t *testing.T, d *rand.Rand, h api.ShHarbour, known []truth) {
		for port := range h.Ports {
			for day := range 8 {
				best, last := -1, never
				for s := range h.Ships {
					days, how := knownDays(h, known, s, port)
					if canTake(h, s, letter(port, day, s)) && how == api.Must && days.Hi < last {
						best, last = s, days.Hi
					}
				}
				s, until, e := ship.Send(h, port, day)
				if best < 0 {
					down++
					if s != 0 || until != 0 || e != api.ErrDown {
						t.Errorf("Send to %d from %d = %d, %d, %d", port, day, s, until, e)
					}
					continue
				}
				sent++
				if s != best || until != last || e != api.OK {
					t.Errorf("Send to %d from %d = %d, %d, %d, not %d, %d", port, day, s, until, e, best, last)
				}
				surely(t, h, letter(port, day, s), until)
			}
		}
	})
	if sent < 300 || down < 300 {
		t.Errorf("only %d sent, %d not", sent, down)
	}
}

// surely checks that a letter surely comes until a day, and by no ship surely sooner.
func surely(t *testing.T, h api.ShHarbour, l api.ShLetter, until int) {
	last := len(h.Letters)
	if last == api.MaxShLetters {
		return
	}
	if how := must[int](t)(ship.Come(with(h, l), last, until)); how != api.Must {
		t.Errorf("Come of %+v until %d = %d", l, until, how)
	}
	for s := range h.Ships {
		other := letter(l.Port, l.Day, s)
		if !canTake(h, s, other) {
			continue
		}
		if how := must[int](t)(ship.Come(with(h, other), last, until-1)); how == api.Must {
			t.Errorf("%+v comes before %d", other, until)
		}
	}
}

// with is a harbour with one more letter.
func with(h api.ShHarbour, l api.ShLetter) api.ShHarbour { return sent(h, l) }

// P4.8: of what any truth makes nothing is denied
func TestWhatWasHeard(t *testing.T) {
	heardOf := 0
	for seed := range uint64(400) {
		d := dice(seed)
		h := anyHarbour(d)
		known := knownTruths(h)
		if len(known) == 0 || len(h.Ships)+len(h.Letters) == 0 {
			continue
		}
		x := known[d.IntN(len(known))]
		for range d.IntN(api.MaxShReports + 1) {
			h.Reports = append(h.Reports, madeSo(h, anyReport(d, h, nil), x))
			heardOf++
		}
		if l := must[[]int](t)(ship.Wrong(h)); len(l) > 0 {
			t.Errorf("%+v: Wrong = %v", h, l)
		}
		_, may := mustTwo[[]int, []int](t)(ship.Sunk(h))
		for s := range h.Ships {
			if x.sinks(h, s) && !slices.Contains(may, s) {
				t.Errorf("%+v: %d sinks, Sunk's may is %v", h, s, may)
			}
			for port := range h.Ports {
				days, how := mustTwo[api.Span, int](t)(ship.Calls(h, s, port))
				if day := x.day(h, s, port); day < never && (how == api.Never || day < days.Lo || day > days.Hi) {
					t.Errorf("%+v: %d calls at %d on %d, Calls = %v, %d", h, s, port, day, days, how)
				}
			}
		}
		for l := range h.Letters {
			day := x.comes(h, l)
			if day < never && must[int](t)(ship.Come(h, l, day)) == api.Never {
				t.Errorf("%+v: letter %d comes on %d", h, l, day)
			}
			if must[int](t)(ship.Come(h, l, min(day-1, api.MaxShDay))) == api.Must {
				t.Errorf("%+v: letter %d does not come before %d", h, l, day)
			}
			if by := must[[]int](t)(ship.By(h, l)); !slices.Contains(by, x.by[l]) {
				t.Errorf("%+v: By of %d = %v, not %d", h, l, by, x.by[l])
			}
		}
	}
	if heardOf < 500 {
		t.Errorf("only %d reports", heardOf)
	}
}

// P4.6, P4.9, P9
func TestFewest(t *testing.T) {
	wrong, down := 0, 0
	for seed := range uint64(400) {
		d := dice(seed)
		h := anyHarbour(d)
		h = reported(d, h, d.IntN(3))
		if len(h.Ships)+len(h.Letters) == 0 {
			continue
		}
		for len(h.Reports) < api.MaxShReports {
			h.Reports = append(h.Reports, anyReport(d, h, nil))
		}
		out, e := ship.Wrong(h)
		if e != api.OK {
			down++
			if bare := unheard(h, []int{0, 1, 2, 3, 4}); e != api.ErrDown || len(out) > 0 || len(knownTruths(bare)) > 0 {
				t.Errorf("%+v: Wrong = %v, %d", h, out, e)
			}
			continue
		}
		if len(out) > 0 {
			wrong++
		}
		for _, l := range subsets(len(h.Reports)) {
			can := len(knownTruths(unheard(h, l))) > 0
			if _, _, e := ship.Sunk(unheard(h, l)); (e == api.OK) != can {
				t.Errorf("%+v: without the reports %v Sunk's error is %d", h, l, e)
			}
			if can {
				if !slices.Equal(l, out) {
					t.Errorf("%+v: Wrong = %v, not %v", h, out, l)
				}
				break
			}
		}
	}
	if wrong < 150 || down < 10 {
		t.Errorf("only %d harbours with wrong reports, %d without a truth", wrong, down)
	}
}

// subsetOf reports whether all of some numbers are among others.
func subsetOf(some, others []int) bool {
	return !slices.ContainsFunc(some, func(n int) bool { return !slices.Contains(others, n) })
}

// P4.10
func TestOneMoreReport(t *testing.T) {
	more := 0
	eachTrueHarbour(t, func(t *testing.T, d *rand.Rand, h api.ShHarbour, known []truth) {
		if len(h.Ships)+len(h.Letters) == 0 {
			return
		}
		next := heard(h, anyReport(d, h, known))
		sure, may, e := ship.Sunk(next)
		if e != api.OK {
			return
		}
		more++
		if was, could := mustTwo[[]int, []int](t)(ship.Sunk(h)); !subsetOf(may, could) || !subsetOf(was, sure) {
			t.Errorf("Sunk was %v, %v, is %v, %v", was, could, sure, may)
		}
		for s := range h.Ships {
			for port := range h.Ports {
				was, could := mustTwo[api.Span, int](t)(ship.Calls(h, s, port))
				is, can := mustTwo[api.Span, int](t)(ship.Calls(next, s, port))
				if could != api.May && can != could || can != api.Never && (is.Lo < was.Lo || is.Hi > was.Hi) {
					t.Errorf("Calls of %d, %d was %v, %d, is %v, %d", s, port, was, could, is, can)
				}
			}
		}
		for l := range h.Letters {
			if was, is := must[[]int](t)(ship.By(h, l)), must[[]int](t)(ship.By(next, l)); !subsetOf(is, was) {
				t.Errorf("By of %d was %v, is %v", l, was, is)
			}
			for day := range 16 {
				if was, is := must[int](t)(ship.Come(h, l, day)), must[int](t)(ship.Come(next, l, day)); was != api.May && is != was {
					t.Errorf("Come of %d until %d was %d, is %d", l, day, was, is)
				}
			}
		}
	})
	if more < 150 {
		t.Errorf("only %d harbours", more)
	}
}

// P4.12
func TestLater(t *testing.T) {
	eachTrueHarbour(t, func(t *testing.T, d *rand.Rand, h api.ShHarbour, known []truth) {
		for l := range h.Letters {
			some, all := false, false
			for day := range api.MaxShDay + 1 {
				how := must[int](t)(ship.Come(h, l, day))
				if all && how != api.Must || some && how == api.Never {
					t.Errorf("Come of %d until %d = %d", l, day, how)
				}
				some, all = how != api.Never, how == api.Must
			}
		}
	})
}

// P4.13
func TestOvertaken(t *testing.T) {
	pairs, chains := 0, 0
	for seed := range uint64(800) {
		d := dice(seed)
		h := anyHarbour(d)
		h.Lost = d.IntN(2)
		for len(h.Letters) < api.MaxShLetters {
			h.Letters = append(h.Letters, anyLetter(d, h))
		}
		h = reported(d, h, 3)
		if len(knownTruths(h)) == 0 {
			continue
		}
		before := func(one, other int) int { return must[int](t)(ship.Before(h, one, other)) }
		for one := range h.Letters {
			for other := range h.Letters {
				if one == other || before(one, other) != api.Must {
					continue
				}
				pairs++
				if how := before(other, one); how != api.Never {
					t.Errorf("%+v: %d comes before %d, but Before of %d, %d = %d", h, one, other, other, one, how)
				}
				for third := range h.Letters {
					if third == other || before(other, third) != api.Must {
						continue
					}
					chains++
					if before(one, third) != api.Must {
						t.Errorf("%+v: %d comes before %d, and this before %d", h, one, other, third)
					}
				}
			}
		}
	}
	if pairs < 200 || chains < 30 {
		t.Errorf("only %d pairs, %d chains", pairs, chains)
	}
}

// P4.14
func TestFewerSink(t *testing.T) {
	fewer, dry := 0, 0
	eachTrueHarbour(t, func(t *testing.T, d *rand.Rand, h api.ShHarbour, known []truth) {
		_, could := mustTwo[[]int, []int](t)(ship.Sunk(h))
		for h.Lost > 0 {
			h.Lost--
			sure, may, e := ship.Sunk(h)
			if e != api.OK {
				return
			}
			fewer++
			if !subsetOf(may, could) || len(sure) > h.Lost {
				t.Errorf("with %d lost Sunk is %v, %v, was %v", h.Lost, sure, may, could)
			}
			could = may
		}
		dry++
		if len(could) > 0 {
			t.Errorf("none is lost, but %v can sink", could)
		}
		for at, s := range h.Ships {
			for _, c := range s.Calls {
				if days, how := mustTwo[api.Span, int](t)(ship.Calls(h, at, c.Port)); how != api.Must || days.Lo < s.Sails+c.After+s.Late.Lo || days.Hi > s.Sails+c.After+s.Late.Hi {
					t.Errorf("none is lost, but Calls of %d, %d = %v, %d", at, c.Port, days, how)
				}
			}
		}
	})
	if fewer < 100 || dry < 100 {
		t.Errorf("only %d and %d harbours", fewer, dry)
	}
}

// moved returns a harbour so many days later.
func moved(h api.ShHarbour, by int) api.ShHarbour {
	h = cloned(h)
	for at := range h.Ships {
		h.Ships[at].Sails += by
	}
	for at := range h.Letters {
		h.Letters[at].Day += by
	}
	for at := range h.Reports {
		h.Reports[at].Day += by
	}
	return h
}

// P4.15
func TestMoved(t *testing.T) {
	eachHarbour(t, func(t *testing.T, d *rand.Rand, h api.ShHarbour) {
		by := 1 + d.IntN(api.MaxShSails-5)
		later := moved(h, by)
		if part, at, e := ship.Check(later); part != 0 || at != 0 || e != api.OK {
			t.Fatalf("Check of %+v = %d, %d, %d", later, part, at, e)
		}
		for range 12 {
			q := asked{d.IntN(api.MaxShShips), d.IntN(api.MaxShPorts), d.IntN(3), d.IntN(3), d.IntN(16)}
			was := ask(h, q)
			q.day += by
			is := ask(later, q)
			if was.errors[0] == api.OK && was.calls != api.Never {
				was.days = api.Span{Lo: was.days.Lo + by, Hi: was.days.Hi + by}
			}
			if was.errors[6] == api.OK {
				was.until += by
			}
			if !sameAnswers(was, is) {
				t.Errorf("%d days later: %+v, not %+v", by, is, was)
			}
		}
	})
}

// sameAnswers reports whether all results are the same.
func sameAnswers(a, b answers) bool {
	return a.days == b.days && a.calls == b.calls && slices.Equal(a.sure, b.sure) && slices.Equal(a.may, b.may) && a.come == b.come &&
		slices.Equal(a.by, b.by) && a.before == b.before && slices.Equal(a.wrong, b.wrong) && a.send == b.send && a.until == b.until && a.errors == b.errors
}

// P4.16: arguments stay as they are, and what lies behind them too
func TestNotModified(t *testing.T) {
	eachHarbour(t, func(t *testing.T, d *rand.Rand, h api.ShHarbour) {
		letters, reports := len(h.Letters), len(h.Reports)
		behindLetters := append(slices.Clone(h.Letters), make([]api.ShLetter, 3)...)
		behindReports := append(slices.Clone(h.Reports), make([]api.ShReport, 3)...)
		h.Letters, h.Reports = behindLetters[:letters], behindReports[:reports]
		was := cloned(h)
		first := ask(h, asked{0, 0, 0, 1, 9})
		if !sameHarbour(h, was) ||
			slices.ContainsFunc(behindLetters[letters:], func(l api.ShLetter) bool { return l != api.ShLetter{} }) ||
			slices.ContainsFunc(behindReports[reports:], func(r api.ShReport) bool { return r != api.ShReport{} }) {
			t.Error("an argument was modified")
		}
		if again := ask(h, asked{0, 0, 0, 1, 9}); !sameAnswers(first, again) {
			t.Errorf("%+v, then %+v", first, again)
		}
	})
}

// P4.16: a result is new memory, and nothing is kept between calls
func TestNewMemory(t *testing.T) {
	a, b, c := vessel("a", 0, 0, 1, 0, 1, 1, 2), vessel("b", 0, 0, 0, 0, 1), vessel("c", 0, 0, 0, 0, 5)
	h := heard(sent(harbour(3, a, b, c), letter(0, 0, none)), away(0, 1, 60), away(1, 0, 60), seen(2, 0, 5))
	bad := heard(h, seen(2, 0, 6), seen(1, 1, 1))
	results := func() [][]int {
		sure, may := mustTwo[[]int, []int](t)(ship.Sunk(h))
		return [][]int{sure, may, must[[]int](t)(ship.By(h, 0)), must[[]int](t)(ship.Wrong(bad))}
	}
	once, twice := results(), results()
	for i, l := range once {
		if len(l) < 2 {
			t.Fatalf("%d: only %v", i, l)
		}
		for at := range l {
			l[at] = 77
		}
		for _, other := range slices.Concat(once[i+1:], twice) {
			if slices.Contains(other, 77) {
				t.Errorf("%d: memory is shared", i)
			}
		}
	}
	for i, l := range results() {
		if !slices.Equal(l, twice[i]) {
			t.Errorf("%d: %v, then %v", i, twice[i], l)
		}
	}
}

// wildInt returns a number, often one that is just at a limit or far beyond it.
func wildInt(d *rand.Rand) int {
	return oneOf(d, math.MinInt, -1<<32, -2, -1, 0, 0, 1, 2, 3, 4, 5, 6, 20, 21, 60, 61, 1<<32, math.MaxInt-1, math.MaxInt)
}

// wildHarbour returns a harbour with things in it that are not valid.
func wildHarbour(d *rand.Rand) api.ShHarbour {
	h := anyHarbour(d)
	for range d.IntN(4) {
		switch d.IntN(7) {
		case 0:
			h.Ports = wildInt(d)
		case 1:
			h.Lost = wildInt(d)
		case 2:
			h.Ships = append(h.Ships, vessel("z", wildInt(d), wildInt(d), wildInt(d), wildInt(d), wildInt(d)))
		case 3:
			h.Ships = h.Ships[:d.IntN(len(h.Ships)+1)]
		case 4:
			h.Letters = append(h.Letters, letter(wildInt(d), wildInt(d), wildInt(d)))
		case 5:
			h.Letters = h.Letters[:d.IntN(len(h.Letters)+1)]
		case 6:
			h.Reports = append(h.Reports, api.ShReport{Kind: wildInt(d), Of: wildInt(d), Port: wildInt(d), Day: wildInt(d)})
		}
	}
	return h
}

// P1, P4.16: any arguments are accepted, and all functions tell the same error of a harbour
func TestAnyArguments(t *testing.T) {
	wrong := 0
	for seed := range uint64(4000) {
		d := dice(seed)
		h := wildHarbour(d)
		part, at, e := ship.Check(h)
		got := ask(h, asked{wildInt(d), wildInt(d), wildInt(d), wildInt(d), wildInt(d)}).errors
		if e == api.OK {
			if part != 0 || at != 0 || got[1] != api.OK && got[1] != api.ErrZero || got[5] != api.OK && got[5] != api.ErrDown {
				t.Errorf("%+v: Check = %d, %d, errors %v", h, part, at, got)
			}
			continue
		}
		wrong++
		if want := [7]api.Errno{e, e, e, e, e, e, e}; part == 0 || got != want {
			t.Errorf("%+v: Check = %d, %d, %d, errors %v", h, part, at, e, got)
		}
	}
	if wrong < 1000 {
		t.Errorf("only %d harbours are not valid", wrong)
	}
	var empty api.ShHarbour
	if part, at, e := ship.Check(empty); part != 1 || at != 0 || e != api.ErrRange {
		t.Errorf("Check = %d, %d, %d", part, at, e)
	}
	ask(empty, asked{})
	huge := sent(harbour(0), make([]api.ShLetter, 1<<20)...)
	if part, at, e := ship.Check(huge); part != 3 || at != 0 || e != api.ErrLong {
		t.Errorf("Check = %d, %d, %d", part, at, e)
	}
}

// P1: the harbours for which there is most to do
func TestMostWork(t *testing.T) {
	h := api.ShHarbour{Ports: api.MaxShPorts, Lost: api.MaxShShips}
	for _, name := range []string{"a", "b", "c"} {
		h.Ships = append(h.Ships, vessel(name, api.MaxShSails, 0, api.MaxShLate, 0, 18, 1, 19, 2, 20))
	}
	for port := range api.MaxShLetters {
		h.Letters = append(h.Letters, letter(port%3, api.MaxShSails, none))
	}
	a := ask(h, asked{2, 2, 2, 1, 43})
	if a.days != (api.Span{Lo: 40, Hi: 43}) || a.calls != api.May || len(a.sure) != 0 || !slices.Equal(a.may, []int{0, 1, 2}) || a.come != api.May || !slices.Equal(a.by, a.may) || a.before != api.May || len(a.wrong) != 0 || a.errors != [7]api.Errno{6: api.ErrDown} {
		t.Errorf("%+v", a)
	}
	for at := range api.MaxShReports {
		h.Reports = append(h.Reports, came(at%api.MaxShLetters, api.MaxShDay))
	}
	if l := must[[]int](t)(ship.Wrong(h)); !slices.Equal(l, []int{0, 1, 2, 3, 4}) {
		t.Errorf("Wrong = %v", l)
	}
}
