package ship_test

import (
	"math/rand/v2"
	"slices"
	"testing"

	"escribano/api"
	"escribano/ship"
)

// none is a ship that is not known.
const none = api.ShNone

// vessel is a ship; its calls are told by ports and days, in turn.
func vessel(name string, sails, lo, hi int, calls ...int) api.ShShip {
	s := api.ShShip{Name: name, Sails: sails, Late: api.Span{Lo: lo, Hi: hi}}
	for at := 0; at < len(calls); at += 2 {
		s.Calls = append(s.Calls, api.ShCall{Port: calls[at], After: calls[at+1]})
	}
	return s
}

// letter is a letter.
func letter(port, day, ship int) api.ShLetter {
	return api.ShLetter{Port: port, Day: day, Ship: ship}
}

// seen, away, came and lack are reports.
func seen(ship, port, day int) api.ShReport {
	return api.ShReport{Kind: api.ShSeen, Of: ship, Port: port, Day: day}
}

func away(ship, port, day int) api.ShReport {
	return api.ShReport{Kind: api.ShAway, Of: ship, Port: port, Day: day}
}

func came(letter, day int) api.ShReport {
	return api.ShReport{Kind: api.ShCame, Of: letter, Day: day}
}

func lack(letter, day int) api.ShReport {
	return api.ShReport{Kind: api.ShLack, Of: letter, Day: day}
}

// example is H of the document's examples, with more reports.
func example(reports ...api.ShReport) api.ShHarbour {
	return api.ShHarbour{
		Ports: 2, Lost: 1,
		Ships:   []api.ShShip{vessel("alba", 1, 0, 2, 0, 3, 1, 6), vessel("brisa", 3, 0, 1, 1, 3)},
		Letters: []api.ShLetter{letter(1, 0, none), letter(1, 2, none)},
		Reports: append([]api.ShReport{seen(0, 0, 5)}, reports...),
	}
}

// safe is a harbour of which no ship sinks.
func safe(h api.ShHarbour) api.ShHarbour {
	h.Lost = 0
	return h
}

// harbour is a harbour with four ports, without letters and reports.
func harbour(lost int, ships ...api.ShShip) api.ShHarbour {
	return api.ShHarbour{Ports: 4, Lost: lost, Ships: ships}
}

// sent is a harbour with more letters, and heard one with more reports.
func sent(h api.ShHarbour, letters ...api.ShLetter) api.ShHarbour {
	h.Letters = slices.Concat(h.Letters, letters)
	return h
}

func heard(h api.ShHarbour, reports ...api.ShReport) api.ShHarbour {
	h.Reports = slices.Concat(h.Reports, reports)
	return h
}

// unheard is a harbour without some reports.
func unheard(h api.ShHarbour, out []int) api.ShHarbour {
	var left []api.ShReport
	for at, r := range h.Reports {
		if !slices.Contains(out, at) {
			left = append(left, r)
		}
	}
	h.Reports = left
	return h
}

// cloned is a harbour that shares no memory with h; sameHarbour reports whether two harbours are equal.
func cloned(h api.ShHarbour) api.ShHarbour {
	h.Ships = slices.Clone(h.Ships)
	for i := range h.Ships {
		h.Ships[i].Calls = slices.Clone(h.Ships[i].Calls)
	}
	h.Letters = slices.Clone(h.Letters)
	h.Reports = slices.Clone(h.Reports)
	return h
}

func sameHarbour(a, b api.ShHarbour) bool {
	return a.Ports == b.Ports && a.Lost == b.Lost && slices.Equal(a.Letters, b.Letters) && slices.Equal(a.Reports, b.Reports) &&
		slices.EqualFunc(a.Ships, b.Ships, func(x, y api.ShShip) bool {
			return x.Name == y.Name && x.Sails == y.Sails && x.Late == y.Late && slices.Equal(x.Calls, y.Calls)
		})
}

// asked is what functions are asked for.
type asked struct{ ship, port, letter, other, day int }

// answers are the results of all functions but Check.
type answers struct {
	days        api.Span
	calls       int
	sure, may   []int
	come        int
	by          []int
	before      int
	wrong       []int
	send, until int
	errors      [7]api.Errno
}

// ask calls all functions but Check.
func ask(h api.ShHarbour, q asked) answers {
	var a answers
	a.days, a.calls, a.errors[0] = ship.Calls(h, q.ship, q.port)
	a.sure, a.may, a.errors[1] = ship.Sunk(h)
	a.come, a.errors[2] = ship.Come(h, q.letter, q.day)
	a.by, a.errors[3] = ship.By(h, q.letter)
	a.before, a.errors[4] = ship.Before(h, q.letter, q.other)
	a.wrong, a.errors[5] = ship.Wrong(h)
	a.send, a.until, a.errors[6] = ship.Send(h, q.port, q.day)
	return a
}

// must returns the result of a call, which must have no error; mustTwo that of a call with two results.
func must[T any](t *testing.T) func(result T, e api.Errno) T {
	return func(result T, e api.Errno) T {
		t.Helper()
		if e != api.OK {
			t.Fatalf("error %d", e)
		}
		return result
	}
}

func mustTwo[T, U any](t *testing.T) func(one T, two U, e api.Errno) (T, U) {
	return func(one T, two U, e api.Errno) (T, U) {
		t.Helper()
		if e != api.OK {
			t.Fatalf("error %d", e)
		}
		return one, two
	}
}

// never is the day of what does not come.
const never = 1 << 20

// truth is what the tests hold for a truth: for each ship how late it is and how many calls it makes, and for each letter its ship.
type truth struct{ late, made, by []int }

// day returns the day on which a ship calls at a port, or never.
func (x truth) day(h api.ShHarbour, ship, port int) int {
	for at, c := range h.Ships[ship].Calls {
		if c.Port == port && at < x.made[ship] {
			return h.Ships[ship].Sails + c.After + x.late[ship]
		}
	}
	return never
}

// comes returns the day on which a letter comes, or never.
func (x truth) comes(h api.ShHarbour, letter int) int {
	return x.day(h, x.by[letter], h.Letters[letter].Port)
}

// sinks reports whether a ship sinks.
func (x truth) sinks(h api.ShHarbour, ship int) bool { return x.made[ship] < len(h.Ships[ship].Calls) }

// makes reports whether a report is so.
func (x truth) makes(h api.ShHarbour, r api.ShReport) bool {
	switch r.Kind {
	case api.ShSeen:
		return x.day(h, r.Of, r.Port) == r.Day
	case api.ShAway:
		return x.day(h, r.Of, r.Port) > r.Day
	case api.ShCame:
		return x.comes(h, r.Of) == r.Day
	}
	return x.comes(h, r.Of) > r.Day
}

// product returns all lists with a number from lo to hi at each place.
func product(spans []api.Span) [][]int {
	all := [][]int{{}}
	for _, s := range spans {
		var longer [][]int
		for _, l := range all {
			for n := s.Lo; n <= s.Hi; n++ {
				longer = append(longer, append(slices.Clone(l), n))
			}
		}
		all = longer
	}
	return all
}

// canTake reports whether a ship takes a letter.
func canTake(h api.ShHarbour, ship int, l api.ShLetter) bool {
	return h.Ships[ship].Sails >= l.Day && slices.ContainsFunc(h.Ships[ship].Calls, func(c api.ShCall) bool { return c.Port == l.Port })
}

// canGo reports whether letters can go by ships, whatever was reported.
func canGo(h api.ShHarbour, by []int) bool {
	for at, l := range h.Letters {
		if l.Ship != none && l.Ship != by[at] || !canTake(h, by[at], l) {
			return false
		}
	}
	return true
}

// knownTruths returns the truths of a harbour.
func knownTruths(h api.ShHarbour) []truth {
	var late, made, by []api.Span
	for _, s := range h.Ships {
		late = append(late, s.Late)
		made = append(made, api.Span{Lo: 0, Hi: len(s.Calls)})
	}
	for range h.Letters {
		by = append(by, api.Span{Lo: 0, Hi: len(h.Ships) - 1})
	}
	routes := slices.DeleteFunc(product(by), func(by []int) bool { return !canGo(h, by) })
	var all []truth
	for _, late := range product(late) {
		for _, made := range product(made) {
			lost := 0
			for ship, s := range h.Ships {
				if made[ship] < len(s.Calls) {
					lost++
				}
			}
			if lost > h.Lost {
				continue
			}
			for _, by := range routes {
				x := truth{late, made, by}
				if !slices.ContainsFunc(h.Reports, func(r api.ShReport) bool { return !x.makes(h, r) }) {
					all = append(all, x)
				}
			}
		}
	}
	return all
}

// over returns whether something is so in all truths, in some or in none.
func over(known []truth, so func(x truth) bool) int {
	some, all := false, true
	for _, x := range known {
		some, all = some || so(x), all && so(x)
	}
	switch {
	case all:
		return api.Must
	case some:
		return api.May
	}
	return api.Never
}

// dice returns numbers that are the same in each run.
func dice(seed uint64) *rand.Rand { return rand.New(rand.NewPCG(seed, 4)) }

// oneOf returns one of some things.
func oneOf[T any](d *rand.Rand, things ...T) T { return things[d.IntN(len(things))] }

// anyShip returns a ship of a harbour.
func anyShip(d *rand.Rand, h api.ShHarbour) api.ShShip {
	late := oneOf(d, api.Span{}, api.Span{Hi: 1}, api.Span{Lo: 1, Hi: 2}, api.Span{Hi: 3}, api.Span{Lo: 3, Hi: 3})
	s := vessel(string(rune('a'+len(h.Ships))), d.IntN(6), late.Lo, late.Hi)
	after := 0
	for _, port := range d.Perm(h.Ports)[:min(h.Ports, d.IntN(api.MaxShCalls+1))] {
		after += 1 + d.IntN(3)
		s.Calls = append(s.Calls, api.ShCall{Port: port, After: after})
	}
	return s
}

// anyLetter returns a letter of a harbour, which often can go by some ship.
func anyLetter(d *rand.Rand, h api.ShHarbour) api.ShLetter {
	l := letter(d.IntN(h.Ports), d.IntN(4), none)
	if len(h.Ships) == 0 {
		return l
	}
	one := d.IntN(len(h.Ships))
	if s := h.Ships[one]; len(s.Calls) > 0 {
		l = letter(s.Calls[d.IntN(len(s.Calls))].Port, d.IntN(s.Sails+1), oneOf(d, none, none, one))
	}
	return l
}

// anyReport returns a report of a harbour with ships or letters; many are as a truth makes them.
func anyReport(d *rand.Rand, h api.ShHarbour, known []truth) api.ShReport {
	r := api.ShReport{Kind: d.IntN(4), Day: 1 + d.IntN(14)}
	if len(h.Letters) == 0 {
		r.Kind = d.IntN(2)
	}
	if len(h.Ships) == 0 {
		r.Kind = 2 + d.IntN(2)
	}
	if r.Kind <= api.ShAway {
		r.Of = d.IntN(len(h.Ships))
		r.Port = d.IntN(h.Ports)
		if s := h.Ships[r.Of]; len(s.Calls) > 0 && d.IntN(4) > 0 {
			r.Port = s.Calls[d.IntN(len(s.Calls))].Port
		}
	} else {
		r.Of = d.IntN(len(h.Letters))
	}
	if len(known) == 0 || d.IntN(6) == 0 {
		return r
	}
	return madeSo(h, r, known[d.IntN(len(known))])
}

// madeSo returns a report as a truth makes it, of the same thing.
func madeSo(h api.ShHarbour, r api.ShReport, x truth) api.ShReport {
	day := never
	if r.Kind <= api.ShAway {
		day = x.day(h, r.Of, r.Port)
	} else {
		day = x.comes(h, r.Of)
	}
	switch {
	case day == never && (r.Kind == api.ShSeen || r.Kind == api.ShCame):
		r.Kind++
	case r.Kind == api.ShSeen || r.Kind == api.ShCame:
		r.Day = day
	default:
		r.Day = min(r.Day, day-1)
	}
	return r
}

// anyHarbour returns a harbour without reports.
func anyHarbour(d *rand.Rand) api.ShHarbour {
	h := api.ShHarbour{Ports: 1 + d.IntN(api.MaxShPorts), Lost: d.IntN(api.MaxShShips)}
	for range oneOf(d, 0, 1, 2, 2, 2, 3, 3) {
		h.Ships = append(h.Ships, anyShip(d, h))
	}
	for range oneOf(d, 0, 1, 2, 2, 3) {
		h.Letters = append(h.Letters, anyLetter(d, h))
	}
	return h
}

// reported returns a harbour with so many reports.
func reported(d *rand.Rand, h api.ShHarbour, many int) api.ShHarbour {
	known := knownTruths(h)
	for range many {
		if len(h.Ships)+len(h.Letters) > 0 {
			h.Reports = append(h.Reports, anyReport(d, h, known))
		}
	}
	return h
}

// eachHarbour calls a test for many harbours.
func eachHarbour(t *testing.T, test func(t *testing.T, d *rand.Rand, h api.ShHarbour)) {
	for seed := range uint64(400) {
		d := dice(seed)
		h := reported(d, anyHarbour(d), d.IntN(api.MaxShReports))
		if part, at, e := ship.Check(h); part != 0 || at != 0 || e != api.OK {
			t.Fatalf("Check of %+v = %d, %d, %d", h, part, at, e)
		}
		test(t, d, h)
		if t.Failed() {
			t.Fatalf("the harbour was %+v", h)
		}
	}
}

// eachTrueHarbour calls a test for many harbours that have a truth, with their truths.
func eachTrueHarbour(t *testing.T, test func(t *testing.T, d *rand.Rand, h api.ShHarbour, known []truth)) {
	eachHarbour(t, func(t *testing.T, d *rand.Rand, h api.ShHarbour) {
		if known := knownTruths(h); len(known) > 0 {
			test(t, d, h, known)
		}
	})
}

// subsets returns all lists of some of the numbers below n, the shorter ones first, then number by number.
func subsets(n int) [][]int {
	var all [][]int
	for set := range 1 << n {
		var l []int
		for i := range n {
			if set>>i&1 == 1 {
				l = append(l, i)
			}
		}
		all = append(all, l)
	}
	slices.SortFunc(all, func(a, b []int) int {
		if len(a) != len(b) {
			return len(a) - len(b)
		}
		return slices.Compare(a, b)
	})
	return all
}
