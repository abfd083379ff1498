package ship_test

import (
	"math"
	"slices"
	"strings"
	"testing"

	"escribano/api"
	"escribano/ship"
)

// wrong is one thing that is wrong with a harbour: what Check returns of it.
type wrong struct {
	name     string
	change   func(h *api.ShHarbour)
	part, at int
	e        api.Errno
}

// aShip, aCall, aLetter and aReport are changes of the ship 1, of its call 1, of the letter 1 and of the report 1.
func aShip(change func(s *api.ShShip)) func(h *api.ShHarbour) {
	return func(h *api.ShHarbour) { change(&h.Ships[1]) }
}

func aCall(change func(c *api.ShCall)) func(h *api.ShHarbour) {
	return func(h *api.ShHarbour) { change(&h.Ships[1].Calls[1]) }
}

func aLetter(change func(l *api.ShLetter)) func(h *api.ShHarbour) {
	return func(h *api.ShHarbour) { change(&h.Letters[1]) }
}

func aReport(change func(r *api.ShReport)) func(h *api.ShHarbour) {
	return func(h *api.ShHarbour) { change(&h.Reports[1]) }
}

// wrongHarbour is the harbour that is changed.
func wrongHarbour() api.ShHarbour {
	h := harbour(1, vessel("alba", 4, 0, 1, 0, 3), vessel("brisa", 5, 0, 3, 3, 2, 1, 4))
	return heard(sent(h, letter(0, 0, none), letter(1, 5, 1)), seen(0, 0, 7), lack(0, 3))
}

// wrongs returns what can be wrong, in the order of the errors.
func wrongs() []wrong {
	return []wrong{
		{"ports", func(h *api.ShHarbour) { h.Ports = 5 }, 1, 0, api.ErrRange},
		{"lost", func(h *api.ShHarbour) { h.Lost = 4 }, 1, 0, api.ErrRange},
		{"too many ships", func(h *api.ShHarbour) { h.Ships = append(h.Ships, make([]api.ShShip, 2)...) }, 2, 0, api.ErrLong},
		{"name", aShip(func(s *api.ShShip) { s.Name = "Alba" }), 2, 1, api.ErrForm},
		{"name twice", aShip(func(s *api.ShShip) { s.Name = "alba" }), 2, 1, api.ErrTwice},
		{"day of sailing", aShip(func(s *api.ShShip) { s.Sails = 21 }), 2, 1, api.ErrRange},
		{"first late day", aShip(func(s *api.ShShip) { s.Late.Lo = -1 }), 2, 1, api.ErrRange},
		{"last late day", aShip(func(s *api.ShShip) { s.Late.Hi = 4 }), 2, 1, api.ErrRange},
		{"late days", aShip(func(s *api.ShShip) { s.Late = api.Span{Lo: 2, Hi: 1} }), 2, 1, api.ErrArg},
		{"too many calls", aShip(func(s *api.ShShip) { s.Calls = append(s.Calls, make([]api.ShCall, 2)...) }), 2, 1, api.ErrLong},
		{"port of a call", aCall(func(c *api.ShCall) { c.Port = 4 }), 2, 1, api.ErrNone},
		{"port twice", aCall(func(c *api.ShCall) { c.Port = 3 }), 2, 1, api.ErrTwice},
		{"day of a call", aCall(func(c *api.ShCall) { c.After = 21 }), 2, 1, api.ErrRange},
		{"days of calls", aCall(func(c *api.ShCall) { c.After = 2 }), 2, 1, api.ErrArg},
		{"too many letters", func(h *api.ShHarbour) { h.Letters = append(h.Letters, make([]api.ShLetter, 3)...) }, 3, 0, api.ErrLong},
		{"port of a letter", aLetter(func(l *api.ShLetter) { l.Port = 4 }), 3, 1, api.ErrNone},
		{"day of a letter", aLetter(func(l *api.ShLetter) { l.Day = 21 }), 3, 1, api.ErrRange},
		{"ship of a letter", aLetter(func(l *api.ShLetter) { l.Ship = 2 }), 3, 1, api.ErrNone},
		{"ship that does not take it", aLetter(func(l *api.ShLetter) { l.Ship = 0 }), 3, 1, api.ErrArg},
		{"too many reports", func(h *api.ShHarbour) { h.Reports = append(h.Reports, make([]api.ShReport, 4)...) }, 4, 0, api.ErrLong},
		{"kind", aReport(func(r *api.ShReport) { r.Kind = 4 }), 4, 1, api.ErrRange},
		{"letter of a report", aReport(func(r *api.ShReport) { r.Of = 2 }), 4, 1, api.ErrNone},
		{"port of a report", aReport(func(r *api.ShReport) { r.Port = 4 }), 4, 1, api.ErrNone},
		{"port of a letter's report", aReport(func(r *api.ShReport) { r.Port = max(r.Port, 1) }), 4, 1, api.ErrArg},
		{"day of a report", aReport(func(r *api.ShReport) { r.Day = 61 }), 4, 1, api.ErrRange},
	}
}

// moreWrongs returns what else can be wrong, and what is not.
func moreWrongs() []wrong {
	return []wrong{
		{"nothing", func(h *api.ShHarbour) {}, 0, 0, api.OK},
		{"no ports", func(h *api.ShHarbour) { h.Ports = 0 }, 1, 0, api.ErrRange},
		{"far ports", func(h *api.ShHarbour) { h.Ports = math.MaxInt }, 1, 0, api.ErrRange},
		{"ports below 0", func(h *api.ShHarbour) { h.Ports = math.MinInt }, 1, 0, api.ErrRange},
		{"lost below 0", func(h *api.ShHarbour) { h.Lost = -1 }, 1, 0, api.ErrRange},
		{"far lost", func(h *api.ShHarbour) { h.Lost = math.MaxInt }, 1, 0, api.ErrRange},
		{"all lost", func(h *api.ShHarbour) { h.Lost = 3 }, 0, 0, api.OK},
		{"none lost", func(h *api.ShHarbour) { h.Lost = 0 }, 0, 0, api.OK},
		{"one port", func(h *api.ShHarbour) { h.Ports = 1 }, 2, 1, api.ErrNone},
		{"nothing there", func(h *api.ShHarbour) { h.Ships, h.Letters, h.Reports = nil, nil, nil }, 0, 0, api.OK},
		{"no ships", func(h *api.ShHarbour) { h.Ships = nil }, 3, 1, api.ErrNone},
		{"three ships", func(h *api.ShHarbour) { h.Ships = append(h.Ships, vessel("c", 0, 0, 0)) }, 0, 0, api.OK},
		{"no name", aShip(func(s *api.ShShip) { s.Name = "" }), 2, 1, api.ErrForm},
		{"long name", aShip(func(s *api.ShShip) { s.Name = strings.Repeat("a", 17) }), 2, 1, api.ErrForm},
		{"name of 16 bytes", aShip(func(s *api.ShShip) { s.Name = "a.23456789012345" }), 0, 0, api.OK},
		{"first ship", func(h *api.ShHarbour) { h.Ships[0].Name = "0" }, 2, 0, api.ErrForm},
		{"sailing below 0", aShip(func(s *api.ShShip) { s.Sails = -1 }), 2, 1, api.ErrRange},
		{"far sailing", aShip(func(s *api.ShShip) { s.Sails = math.MaxInt }), 2, 1, api.ErrRange},
		{"last sailing", aShip(func(s *api.ShShip) { s.Sails = 20 }), 0, 0, api.OK},
		{"late days too late", aShip(func(s *api.ShShip) { s.Late = api.Span{Lo: 4, Hi: 3} }), 2, 1, api.ErrRange},
		{"late days below 0", aShip(func(s *api.ShShip) { s.Late = api.Span{Lo: 0, Hi: -1} }), 2, 1, api.ErrRange},
		{"far late days", aShip(func(s *api.ShShip) { s.Late = api.Span{Lo: math.MinInt, Hi: math.MaxInt} }), 2, 1, api.ErrRange},
		{"late by three days", aShip(func(s *api.ShShip) { s.Late = api.Span{Lo: 3, Hi: 3} }), 0, 0, api.OK},
		{"no calls", func(h *api.ShHarbour) { h.Ships[1].Calls, h.Letters = nil, nil; h.Reports[1] = seen(1, 1, 9) }, 0, 0, api.OK},
		{"three calls", aShip(func(s *api.ShShip) { s.Calls = append(s.Calls, api.ShCall{Port: 0, After: 20}) }), 0, 0, api.OK},
		{"call below 0", aCall(func(c *api.ShCall) { c.Port = -1 }), 2, 1, api.ErrNone},
		{"far call", aCall(func(c *api.ShCall) { c.Port = math.MaxInt }), 2, 1, api.ErrNone},
		{"call on the day of sailing", aCall(func(c *api.ShCall) { c.After = 0 }), 2, 1, api.ErrRange},
		{"call a day before another one", aCall(func(c *api.ShCall) { c.After = 1 }), 2, 1, api.ErrArg},
		{"call a day after", aCall(func(c *api.ShCall) { c.After = 3 }), 0, 0, api.OK},
		{"far day of a call", aCall(func(c *api.ShCall) { c.After = math.MaxInt }), 2, 1, api.ErrRange},
		{"last day of a call", aCall(func(c *api.ShCall) { c.After = 20 }), 0, 0, api.OK},
		{"first day of a call", func(h *api.ShHarbour) { h.Ships[1].Calls[0].After = 1 }, 0, 0, api.OK},
		{"no first day of a call", func(h *api.ShHarbour) { h.Ships[1].Calls[0].After = 0 }, 2, 1, api.ErrRange},
		{"call below the one before the last one", aShip(func(s *api.ShShip) { s.Calls = append(s.Calls, api.ShCall{Port: 0, After: 3}) }), 2, 1, api.ErrArg},
		{"port of the first call", aShip(func(s *api.ShShip) { s.Calls = append(s.Calls, api.ShCall{Port: 3, After: 9}) }), 2, 1, api.ErrTwice},
		{"four letters", func(h *api.ShHarbour) { h.Letters = append(h.Letters, h.Letters...) }, 0, 0, api.OK},
		{"port below 0", aLetter(func(l *api.ShLetter) { l.Port = -1 }), 3, 1, api.ErrNone},
		{"day below 0", aLetter(func(l *api.ShLetter) { l.Day = -1 }), 3, 1, api.ErrRange},
		{"far day", aLetter(func(l *api.ShLetter) { l.Day = math.MaxInt }), 3, 1, api.ErrRange},
		{"last day", aLetter(func(l *api.ShLetter) { l.Day, l.Ship = 20, none }), 0, 0, api.OK},
		{"ship below none", aLetter(func(l *api.ShLetter) { l.Ship = -2 }), 3, 1, api.ErrNone},
		{"far ship", aLetter(func(l *api.ShLetter) { l.Ship = math.MaxInt }), 3, 1, api.ErrNone},
		{"no ship", aLetter(func(l *api.ShLetter) { l.Ship = none }), 0, 0, api.OK},
		{"ship that sailed", aLetter(func(l *api.ShLetter) { l.Day = 6 }), 3, 1, api.ErrArg},
		{"ship that sails later", aLetter(func(l *api.ShLetter) { l.Day = 0 }), 0, 0, api.OK},
		{"ship that does not call there", aLetter(func(l *api.ShLetter) { l.Port = 2 }), 3, 1, api.ErrArg},
		{"letter that no ship takes", aLetter(func(l *api.ShLetter) { l.Port, l.Ship = 2, none }), 0, 0, api.OK},
		{"five reports", func(h *api.ShHarbour) { h.Reports = append(h.Reports, seen(0, 0, 1), lack(1, 60), away(1, 3, 0)) }, 0, 0, api.OK},
		{"kind below 0", aReport(func(r *api.ShReport) { r.Kind = -1 }), 4, 1, api.ErrRange},
		{"far kind", aReport(func(r *api.ShReport) { r.Kind = math.MinInt }), 4, 1, api.ErrRange},
		{"letter below 0", aReport(func(r *api.ShReport) { r.Of = -1 }), 4, 1, api.ErrNone},
		{"far letter", aReport(func(r *api.ShReport) { r.Kind, r.Of = api.ShCame, math.MaxInt }), 4, 1, api.ErrNone},
		{"reported port below 0", aReport(func(r *api.ShReport) { r.Port = -1 }), 4, 1, api.ErrNone},
		{"port of what came", aReport(func(r *api.ShReport) { r.Kind, r.Port = api.ShCame, 3 }), 4, 1, api.ErrArg},
		{"reported day below 0", aReport(func(r *api.ShReport) { r.Day = -1 }), 4, 1, api.ErrRange},
		{"last reported day", aReport(func(r *api.ShReport) { r.Day = 60 }), 0, 0, api.OK},
		{"ship of a report", func(h *api.ShHarbour) { h.Reports[0].Of = 2 }, 4, 0, api.ErrNone},
		{"ship that was away", func(h *api.ShHarbour) { h.Reports[0] = away(2, 0, 7) }, 4, 0, api.ErrNone},
		{"letters, but not so many ships", func(h *api.ShHarbour) {
			h.Letters = append(h.Letters, h.Letters[0])
			h.Reports[1].Of = 2
		}, 0, 0, api.OK},
		{"ships, but not so many letters", func(h *api.ShHarbour) { h.Letters = h.Letters[:1]; h.Reports[0] = seen(1, 0, 7) }, 0, 0, api.OK},
		{"port at which the ship does not call", func(h *api.ShHarbour) { h.Reports[0].Port = 2 }, 0, 0, api.OK},
		{"port of a ship", func(h *api.ShHarbour) { h.Reports[0].Port = 4 }, 4, 0, api.ErrNone},
		{"day of a ship", func(h *api.ShHarbour) { h.Reports[0].Day = 61 }, 4, 0, api.ErrRange},
	}
}

// P4.1: each error
func TestCheckEach(t *testing.T) {
	for _, w := range append(wrongs(), moreWrongs()...) {
		h := cloned(wrongHarbour())
		w.change(&h)
		part, at, e := ship.Check(h)
		if part != w.part || at != w.at || e != w.e {
			t.Errorf("%s: Check = %d, %d, %d", w.name, part, at, e)
		}
		if e == api.OK {
			continue
		}
		want := [7]api.Errno{e, e, e, e, e, e, e}
		if got := ask(h, asked{9, 9, 9, 9, 99}).errors; got != want {
			t.Errorf("%s: errors %v", w.name, got)
		}
	}
}

// P4.1, P1: of two errors the one that is named first
func TestCheckFirst(t *testing.T) {
	all := wrongs()
	for i, w := range all {
		for _, x := range all[i+1:] {
			h := cloned(wrongHarbour())
			x.change(&h)
			w.change(&h)
			if part, at, e := ship.Check(h); part != w.part || at != w.at || e != w.e {
				t.Errorf("%s, and %s: Check = %d, %d, %d", w.name, x.name, part, at, e)
			}
		}
	}
}

// P4.1, R1: of two ships, calls, letters or reports with an error the first one, whatever its error is
func TestCheckFirstThing(t *testing.T) {
	for _, c := range []wrong{
		{"ships", func(h *api.ShHarbour) { h.Ships[0].Calls[0].After, h.Ships[1].Name = 21, "" }, 2, 0, api.ErrRange},
		{"late and name", func(h *api.ShHarbour) { h.Ships[0].Late.Lo, h.Ships[1].Name = 2, "" }, 2, 0, api.ErrArg},
		{"calls", func(h *api.ShHarbour) { h.Ships[1].Calls[0].After, h.Ships[1].Calls[1].Port = 21, 9 }, 2, 1, api.ErrRange},
		{"too many calls and a call", func(h *api.ShHarbour) { h.Ships[1].Calls = make([]api.ShCall, 4) }, 2, 1, api.ErrLong},
		{"call and too many letters", func(h *api.ShHarbour) { h.Ships[1].Calls[1].After, h.Letters = 1, make([]api.ShLetter, 5) }, 2, 1, api.ErrArg},
		{"letters", func(h *api.ShHarbour) { h.Letters[0].Ship, h.Letters[1].Port = 1, 9 }, 3, 0, api.ErrArg},
		{"letters' ships and days", func(h *api.ShHarbour) { h.Letters[0].Ship, h.Letters[1].Day = 9, 99 }, 3, 0, api.ErrNone},
		{"letter and too many reports", func(h *api.ShHarbour) { h.Letters[1].Ship, h.Reports = 0, make([]api.ShReport, 6) }, 3, 1, api.ErrArg},
		{"reports", func(h *api.ShHarbour) { h.Reports[0].Day, h.Reports[1].Kind = 61, 9 }, 4, 0, api.ErrRange},
		{"letters of reports", func(h *api.ShHarbour) { h.Reports[0] = api.ShReport{Kind: 3, Port: 2}; h.Reports[1].Of = 9 }, 4, 0, api.ErrArg},
		{"port and day of a report", func(h *api.ShHarbour) { h.Reports[1].Port, h.Reports[1].Day = 1, 61 }, 4, 1, api.ErrArg},
		{"port that is none of a letter's report", func(h *api.ShHarbour) { h.Reports[1].Port, h.Reports[1].Day = -1, 61 }, 4, 1, api.ErrNone},
	} {
		h := cloned(wrongHarbour())
		c.change(&h)
		if part, at, e := ship.Check(h); part != c.part || at != c.at || e != c.e {
			t.Errorf("%s: Check = %d, %d, %d", c.name, part, at, e)
		}
	}
}

// lost is a harbour without a truth because of its report, and gone one whose letter no ship takes.
func lost() api.ShHarbour { return heard(example(), seen(1, 1, 9)) }

func gone() api.ShHarbour { return sent(example(), letter(0, 2, none)) }

// P4.2 to P4.7, P1: the errors behind that of Check, in their order
func TestErrors(t *testing.T) {
	const ok, arg, no, rang, zero, down = api.OK, api.ErrArg, api.ErrNone, api.ErrRange, api.ErrZero, api.ErrDown
	for i, c := range []struct {
		h    api.ShHarbour
		q    asked
		want [7]api.Errno
	}{
		{example(), asked{0, 0, 0, 1, 0}, [7]api.Errno{}},
		{safe(example()), asked{1, 1, 1, 0, 3}, [7]api.Errno{}},
		{example(), asked{2, 0, 2, 2, 0}, [7]api.Errno{no, ok, no, no, no, ok, ok}},
		{example(), asked{-1, 0, -1, -1, 0}, [7]api.Errno{no, ok, no, no, no, ok, ok}},
		{example(), asked{0, 2, 0, 2, 0}, [7]api.Errno{no, ok, ok, ok, no, ok, no}},
		{example(), asked{0, -1, 2, 0, 0}, [7]api.Errno{no, ok, no, no, no, ok, no}},
		{example(), asked{math.MaxInt, math.MinInt, math.MaxInt, math.MinInt, 0}, [7]api.Errno{no, ok, no, no, no, ok, no}},
		{example(), asked{0, 2, 2, 2, 61}, [7]api.Errno{no, ok, no, no, no, ok, no}},
		{example(), asked{0, 0, 0, 0, 61}, [7]api.Errno{ok, ok, rang, ok, arg, ok, rang}},
		{example(), asked{0, 0, 1, 1, -1}, [7]api.Errno{ok, ok, rang, ok, arg, ok, rang}},
		{example(), asked{0, 0, 0, 1, math.MaxInt}, [7]api.Errno{ok, ok, rang, ok, ok, ok, rang}},
		{example(), asked{0, 0, 0, 1, math.MinInt}, [7]api.Errno{ok, ok, rang, ok, ok, ok, rang}},
		{example(), asked{0, 0, 0, 1, 60}, [7]api.Errno{ok, ok, ok, ok, ok, ok, down}},
		{example(), asked{0, 1, 0, 1, 0}, [7]api.Errno{ok, ok, ok, ok, ok, ok, down}},
		{lost(), asked{0, 0, 0, 1, 0}, [7]api.Errno{zero, zero, zero, zero, zero, ok, zero}},
		{lost(), asked{0, 1, 0, 1, 60}, [7]api.Errno{zero, zero, zero, zero, zero, ok, zero}},
		{lost(), asked{2, 0, 2, 2, 61}, [7]api.Errno{no, zero, no, no, no, ok, rang}},
		{lost(), asked{0, 2, 0, 0, 61}, [7]api.Errno{no, zero, rang, zero, arg, ok, no}},
		{gone(), asked{0, 0, 0, 1, 0}, [7]api.Errno{zero, zero, zero, zero, zero, down, zero}},
		{gone(), asked{0, 0, 2, 2, 61}, [7]api.Errno{zero, zero, rang, zero, arg, down, rang}},
		{harbour(0), asked{0, 3, 0, 0, 9}, [7]api.Errno{no, ok, no, no, no, ok, down}},
		{sent(harbour(3), letter(0, 0, none)), asked{0, 3, 0, 0, 9}, [7]api.Errno{no, zero, zero, zero, arg, down, zero}},
	} {
		if got := ask(c.h, c.q).errors; got != c.want {
			t.Errorf("%d: errors %v", i, got)
		}
	}
}

// P4.2 to P4.7, R2: with an error every other result is its zero value
func TestZeroWithError(t *testing.T) {
	bad := example()
	bad.Letters[1].Day = -1
	for i, c := range []struct {
		h api.ShHarbour
		q asked
	}{
		{bad, asked{0, 0, 0, 1, 1}}, {lost(), asked{0, 0, 0, 1, 1}}, {gone(), asked{0, 0, 0, 1, 1}},
		{example(), asked{2, 2, 2, 0, 0}}, {example(), asked{2, 1, 2, 2, 0}}, {example(), asked{0, 0, 1, 1, 61}}, {example(), asked{0, 1, 0, 1, 0}},
	} {
		a := ask(c.h, c.q)
		if a.errors[0] != api.OK && (a.days != api.Span{} || a.calls != 0) ||
			a.errors[1] != api.OK && len(a.sure)+len(a.may) != 0 ||
			a.errors[2] != api.OK && a.come != 0 || a.errors[3] != api.OK && len(a.by) != 0 ||
			a.errors[4] != api.OK && a.before != 0 || a.errors[5] != api.OK && len(a.wrong) != 0 ||
			a.errors[6] == api.OK || a.send != 0 || a.until != 0 {
			t.Errorf("%d: %+v", i, a)
		}
	}
}

// P4.2
func TestCalls(t *testing.T) {
	three := vessel("a", 2, 0, 3, 0, 1, 1, 2, 2, 5)
	other := vessel("b", 0, 1, 1, 0, 9)
	for i, c := range []struct {
		h          api.ShHarbour
		ship, port int
		lo, hi     int
		how        int
	}{
		{harbour(0, three), 0, 0, 3, 6, api.Must},
		{harbour(0, three), 0, 2, 7, 10, api.Must},
		{harbour(0, three), 0, 3, 0, 0, api.Never},
		{harbour(1, three), 0, 0, 3, 6, api.May},
		{harbour(3, three), 0, 1, 4, 7, api.May},
		{harbour(1, three), 0, 3, 0, 0, api.Never},
		{harbour(0, vessel("a", 20, 3, 3, 0, 20)), 0, 0, 43, 43, api.Must},
		{harbour(0, vessel("a", 0, 0, 0, 0, 1)), 0, 0, 1, 1, api.Must},
		{harbour(3, vessel("a", 0, 0, 0)), 0, 0, 0, 0, api.Never},
		// who called at a port made all calls before it, on days that are known
		{heard(harbour(1, three), seen(0, 1, 5)), 0, 0, 4, 4, api.Must},
		{heard(harbour(1, three), seen(0, 1, 5)), 0, 1, 5, 5, api.Must},
		{heard(harbour(1, three), seen(0, 1, 5)), 0, 2, 8, 8, api.May},
		{heard(harbour(0, three), seen(0, 2, 10)), 0, 0, 6, 6, api.Must},
		// who was not there may be late, or gone
		{heard(harbour(0, three), away(0, 0, 4)), 0, 0, 5, 6, api.Must},
		{heard(harbour(1, three), away(0, 0, 4)), 0, 0, 5, 6, api.May},
		{heard(harbour(1, three), away(0, 0, 6)), 0, 0, 0, 0, api.Never},
		{heard(harbour(1, three), away(0, 2, 10)), 0, 2, 0, 0, api.Never},
		{heard(harbour(1, three), away(0, 2, 10)), 0, 1, 4, 7, api.May},
		{heard(harbour(0, three), away(0, 3, 60)), 0, 1, 4, 7, api.Must},
		// only one of two can sink
		{heard(harbour(1, three, other), away(1, 0, 60)), 0, 2, 7, 10, api.Must},
		{heard(harbour(2, three, other), away(1, 0, 60)), 0, 2, 7, 10, api.May},
		{heard(harbour(1, three, other), seen(1, 0, 10)), 0, 2, 7, 10, api.May},
		// a letter that came was with somebody
		{heard(sent(harbour(2, three, other), letter(0, 1, none)), came(0, 5)), 0, 0, 5, 5, api.Must},
		{heard(sent(harbour(2, three, other), letter(0, 0, none)), came(0, 10)), 0, 0, 3, 6, api.May},
		{heard(sent(harbour(2, three, other), letter(0, 0, none)), came(0, 10)), 1, 0, 10, 10, api.Must},
		{heard(sent(harbour(2, three, other), letter(0, 0, 0)), lack(0, 4)), 0, 0, 5, 6, api.May},
		{heard(sent(harbour(0, three, other), letter(0, 0, none)), lack(0, 4)), 0, 0, 3, 6, api.Must},
	} {
		if days, how, e := ship.Calls(c.h, c.ship, c.port); days != (api.Span{Lo: c.lo, Hi: c.hi}) || how != c.how || e != api.OK {
			t.Errorf("%d: Calls = %v, %d, %d", i, days, how, e)
		}
	}
}

// P4.3
func TestSunk(t *testing.T) {
	a, b, c := vessel("a", 0, 0, 0, 0, 1, 1, 2), vessel("b", 0, 0, 1, 0, 1), vessel("c", 0, 0, 0)
	for i, w := range []struct {
		h         api.ShHarbour
		sure, may []int
	}{
		{harbour(3), nil, nil},
		{harbour(0, a, b, c), nil, nil},
		{harbour(1, a, b, c), nil, []int{0, 1}},
		{harbour(3, a, b, c), nil, []int{0, 1}}, // who does not call anywhere makes all calls
		{harbour(3, c), nil, nil},
		{heard(harbour(1, a, b), away(0, 1, 2)), []int{0}, []int{0}},
		{heard(harbour(2, a, b), away(0, 1, 2)), []int{0}, []int{0, 1}},
		{heard(harbour(3, a, b), away(0, 1, 2), seen(0, 0, 1), away(1, 0, 60)), []int{0, 1}, []int{0, 1}},
		{heard(harbour(3, a, b), seen(0, 1, 2)), nil, []int{1}},
		{heard(harbour(3, a, b), seen(0, 0, 1)), nil, []int{0, 1}},
		{heard(harbour(3, a, b), away(0, 1, 1), away(1, 0, 1)), nil, []int{0, 1}},
		// a letter that does not come
		{heard(sent(harbour(1, a, b), letter(1, 0, none)), lack(0, 60)), []int{0}, []int{0}},
		{heard(sent(harbour(1, a, b), letter(0, 0, none)), lack(0, 60)), nil, []int{0, 1}},
		{heard(sent(harbour(3, a, b), letter(0, 0, 1)), lack(0, 60)), []int{1}, []int{0, 1}},
		{heard(sent(harbour(3, a, b), letter(0, 0, none)), came(0, 2)), nil, []int{0}},
	} {
		sure, may, e := ship.Sunk(w.h)
		if !slices.Equal(sure, w.sure) || !slices.Equal(may, w.may) || e != api.OK {
			t.Errorf("%d: Sunk = %v, %v, %d", i, sure, may, e)
		}
	}
}

// P4.4
func TestComeAndBy(t *testing.T) {
	a, b, c := vessel("a", 2, 0, 1, 0, 1, 1, 4), vessel("b", 3, 0, 0, 1, 1), vessel("c", 3, 1, 1, 2, 2, 1, 3)
	all := func(lost int, l api.ShLetter, reports ...api.ShReport) api.ShHarbour {
		return heard(sent(harbour(lost, a, b, c), l), reports...)
	}
	for i, w := range []struct {
		h             api.ShHarbour
		by            []int
		first, surely int // the first day on which it may have come, and on which it must; 61 if it does not
	}{
		{all(0, letter(1, 0, none)), []int{0, 1, 2}, 4, 7},
		{all(0, letter(1, 2, none)), []int{0, 1, 2}, 4, 7},
		{all(0, letter(1, 3, none)), []int{1, 2}, 4, 7},
		{all(0, letter(1, 0, 0)), []int{0}, 6, 7},
		{all(0, letter(0, 0, none)), []int{0}, 3, 4},
		{all(0, letter(2, 3, none)), []int{2}, 6, 6},
		{all(1, letter(1, 0, none)), []int{0, 1, 2}, 4, 61},
		{all(1, letter(1, 0, 1)), []int{1}, 4, 61},
		// what came, and what did not, until a day
		{all(3, letter(1, 0, none), came(0, 4)), []int{1}, 4, 4},
		{all(3, letter(1, 0, none), came(0, 7)), []int{0, 2}, 7, 7},
		{all(3, letter(1, 0, none), came(0, 6)), []int{0}, 6, 6},
		{all(0, letter(1, 0, none), lack(0, 3)), []int{0, 1, 2}, 4, 7},
		{all(0, letter(1, 0, none), lack(0, 4)), []int{0, 2}, 6, 7},
		{all(0, letter(1, 0, none), lack(0, 6)), []int{0, 2}, 7, 7},
		{all(1, letter(1, 0, none), lack(0, 4)), []int{0, 1, 2}, 6, 61},
		{all(1, letter(1, 0, none), lack(0, 60)), []int{0, 1, 2}, 61, 61},
		// what is known of ships
		{all(1, letter(1, 0, none), away(0, 0, 60)), []int{0, 1, 2}, 4, 61},
		{all(1, letter(1, 0, none), away(0, 0, 60), lack(0, 4)), []int{0, 2}, 7, 61},
		{all(1, letter(1, 0, none), away(0, 0, 60), lack(0, 7)), []int{0}, 61, 61},
		{all(1, letter(1, 0, none), seen(0, 0, 4), lack(0, 6)), []int{0, 1, 2}, 7, 61},
		{all(0, letter(1, 0, none), seen(0, 0, 3), lack(0, 6)), []int{2}, 7, 7},
		{all(0, letter(1, 0, none), seen(0, 0, 3), came(0, 6)), []int{0}, 6, 6},
	} {
		if l := must[[]int](t)(ship.By(w.h, 0)); !slices.Equal(l, w.by) {
			t.Errorf("%d: By = %v", i, l)
		}
		for day := range api.MaxShDay + 1 {
			want := api.May
			if day < w.first {
				want = api.Never
			} else if day >= w.surely {
				want = api.Must
			}
			if n := must[int](t)(ship.Come(w.h, 0, day)); n != want {
				t.Errorf("%d: Come until %d = %d", i, day, n)
			}
		}
	}
	// a letter says something of another one only by ships
	two := heard(sent(harbour(1, b, c), letter(1, 0, none), letter(1, 0, none)), lack(0, 60), came(1, 7))
	if l, m := must[[]int](t)(ship.By(two, 0)), must[[]int](t)(ship.By(two, 1)); !slices.Equal(l, []int{0}) || !slices.Equal(m, []int{1}) {
		t.Errorf("By = %v, %v", l, m)
	}
}

// P4.5
func TestBefore(t *testing.T) {
	a, b := vessel("a", 0, 0, 0, 0, 1, 1, 3), vessel("b", 0, 0, 2, 0, 2, 1, 4)
	for i, w := range []struct {
		h    api.ShHarbour
		want int
	}{
		{sent(harbour(0, a, b), letter(0, 0, 0), letter(1, 0, 0)), api.Must},
		{sent(harbour(0, a, b), letter(0, 0, 0), letter(0, 0, 0)), api.Never}, // on one day
		{sent(harbour(0, a, b), letter(0, 0, 0), letter(0, 0, 1)), api.Must},
		{sent(harbour(0, a, b), letter(0, 0, 1), letter(0, 0, 0)), api.Never},
		{sent(harbour(0, a, b), letter(1, 0, 0), letter(0, 0, 1)), api.May},
		{sent(harbour(0, a, b), letter(0, 0, none), letter(0, 0, none)), api.May},
		{sent(harbour(0, a, b), letter(0, 0, none), letter(1, 0, none)), api.May}, // by b at the latest 4, by a on 3
		{sent(harbour(0, a), letter(0, 0, none), letter(0, 0, none)), api.Never},
		// what sinks does not come before anything, all else comes before it
		{sent(harbour(1, a), letter(0, 0, 0), letter(1, 0, 0)), api.May},
		{heard(sent(harbour(1, a), letter(0, 0, 0), letter(1, 0, 0)), seen(0, 0, 1)), api.Must},
		{heard(sent(harbour(1, a), letter(0, 0, 0), letter(1, 0, 0)), away(0, 0, 1)), api.Never},
		{heard(sent(harbour(1, a), letter(0, 0, 0), letter(0, 0, 0)), away(0, 0, 1)), api.Never},
		{heard(sent(harbour(1, a, b), letter(0, 0, 1), letter(0, 0, 0)), away(0, 0, 60)), api.Must},
		{heard(sent(harbour(1, a, b), letter(0, 0, 0), letter(0, 0, 1)), away(0, 0, 60)), api.Never},
		{heard(sent(harbour(1, a, b), letter(0, 0, none), letter(0, 0, 0)), away(0, 0, 60)), api.May},
		// one ship brings both, whichever it was
		{heard(sent(harbour(0, b), letter(0, 0, none), letter(1, 0, none)), came(0, 4)), api.Must},
		{heard(sent(harbour(0, a, b), letter(0, 0, none), letter(0, 0, none)), came(0, 1), lack(1, 1)), api.Must},
		{heard(sent(harbour(0, a, b), letter(0, 0, none), letter(0, 0, none)), came(0, 1), lack(1, 0)), api.May},
	} {
		if n := must[int](t)(ship.Before(w.h, 0, 1)); n != w.want {
			t.Errorf("%d: Before = %d", i, n)
		}
	}
}

// P4.6
func TestWrong(t *testing.T) {
	a, b := vessel("a", 0, 0, 2, 0, 1, 1, 3), vessel("b", 1, 0, 0, 0, 1)
	letters := []api.ShLetter{letter(0, 0, none), letter(1, 0, none)}
	at := func(lost int, reports ...api.ShReport) api.ShHarbour {
		return heard(sent(harbour(lost, a, b), letters...), reports...)
	}
	for i, w := range []struct {
		h    api.ShHarbour
		want []int
		e    api.Errno
	}{
		{harbour(0), nil, api.OK},
		{at(0), nil, api.OK},
		{at(0, seen(0, 0, 1), seen(0, 1, 3), seen(1, 0, 2)), nil, api.OK},
		{at(0, seen(0, 0, 4)), []int{0}, api.OK},
		{at(0, seen(0, 2, 1)), []int{0}, api.OK},
		{at(0, away(0, 2, 60)), nil, api.OK},
		{at(0, away(0, 1, 5)), []int{0}, api.OK},
		{at(1, away(0, 1, 5)), nil, api.OK},
		{at(0, seen(0, 0, 1), seen(0, 0, 2)), []int{0}, api.OK},
		{at(0, seen(0, 0, 1), seen(0, 0, 2), seen(0, 1, 4)), []int{0}, api.OK},
		{at(0, seen(0, 0, 2), seen(0, 0, 1), seen(0, 1, 3)), []int{0}, api.OK},
		{at(0, seen(0, 1, 4), seen(0, 0, 2), seen(0, 0, 1)), []int{2}, api.OK},
		{at(0, seen(0, 0, 1), away(0, 1, 3), seen(1, 0, 2), away(1, 0, 2)), []int{0, 3}, api.OK},
		{at(1, away(0, 1, 60), away(1, 0, 60)), []int{0}, api.OK},
		{at(2, away(0, 1, 60), away(1, 0, 60)), nil, api.OK},
		{at(1, away(1, 0, 60), away(1, 0, 60), seen(0, 0, 1), away(0, 1, 60)), []int{3}, api.OK},
		{at(0, came(1, 6), came(1, 3), lack(1, 2)), []int{0}, api.OK},
		{at(0, came(0, 3), came(1, 3)), []int{0}, api.OK},
		{at(0, came(0, 2), came(1, 3)), nil, api.OK}, // the first letter was with b
		{at(0, came(0, 2), came(1, 3), away(1, 0, 2)), []int{2}, api.OK},
		{at(1, came(0, 2), came(1, 3), away(1, 0, 2)), []int{0}, api.OK},
		{at(1, lack(1, 60), seen(0, 1, 4), came(1, 5)), []int{0, 1}, api.OK},
		{at(1, lack(0, 60), came(0, 1), lack(0, 1), came(0, 4), came(0, 9)), []int{1, 3, 4}, api.OK},
		{at(0, seen(0, 0, 9), seen(1, 0, 9), came(0, 9), came(1, 9), seen(0, 3, 9)), []int{0, 1, 2, 3, 4}, api.OK},
		{sent(harbour(3, a), letter(3, 0, none)), nil, api.ErrDown},
		{heard(sent(harbour(3, a), letter(0, 1, none)), seen(0, 0, 9)), nil, api.ErrDown},
		{sent(harbour(3, b), letter(0, 1, none)), nil, api.OK},
	} {
		if l, e := ship.Wrong(w.h); !slices.Equal(l, w.want) || e != w.e {
			t.Errorf("%d: Wrong = %v, %d", i, l, e)
		}
	}
}

// P4.7
func TestSend(t *testing.T) {
	a, b, c := vessel("a", 2, 0, 2, 0, 2, 1, 9), vessel("b", 4, 0, 0, 0, 1), vessel("c", 20, 0, 0, 0, 1, 1, 2)
	for i, w := range []struct {
		h           api.ShHarbour
		port, day   int
		ship, until int
		e           api.Errno
	}{
		{harbour(0, a, b, c), 0, 0, 1, 5, api.OK},
		{harbour(0, a, b, c), 0, 2, 1, 5, api.OK},
		{harbour(0, a, b, c), 0, 4, 1, 5, api.OK},
		{harbour(0, a, b, c), 0, 5, 2, 21, api.OK},
		{harbour(0, a, b, c), 0, 20, 2, 21, api.OK},
		{harbour(0, a, b, c), 0, 21, 0, 0, api.ErrDown},
		{harbour(0, a, b, c), 0, 60, 0, 0, api.ErrDown},
		{harbour(0, a, b, c), 1, 0, 0, 13, api.OK},
		{harbour(0, a, b, c), 1, 2, 0, 13, api.OK},
		{harbour(0, a, b, c), 1, 3, 2, 22, api.OK},
		{harbour(0, a, b, c), 2, 0, 0, 0, api.ErrDown},
		{harbour(0), 2, 0, 0, 0, api.ErrDown},
		// of several the first one
		{harbour(0, vessel("a", 1, 0, 0, 0, 9), vessel("b", 3, 0, 3, 0, 2), vessel("c", 2, 1, 2, 0, 4)), 0, 0, 1, 8, api.OK},
		{harbour(0, vessel("a", 1, 0, 0, 0, 9), vessel("b", 3, 0, 3, 0, 2), vessel("c", 2, 1, 2, 0, 3)), 0, 0, 2, 7, api.OK},
		// who can sink brings nothing surely, but who was seen does
		{harbour(1, a, b, c), 0, 0, 0, 0, api.ErrDown},
		{heard(harbour(1, a, b, c), seen(0, 0, 4)), 0, 0, 0, 4, api.OK},
		{heard(harbour(1, a, b, c), seen(0, 0, 6)), 0, 0, 0, 6, api.OK},
		{heard(harbour(1, a, b, c), seen(0, 0, 6)), 1, 0, 0, 0, api.ErrDown},
		{heard(harbour(1, a, b, c), away(0, 0, 60)), 0, 0, 1, 5, api.OK},
		{heard(harbour(1, a, b, c), away(1, 0, 60)), 0, 0, 0, 6, api.OK},
		{heard(harbour(1, a, b, c), away(1, 0, 60), away(0, 0, 4)), 0, 0, 0, 6, api.OK},
		{heard(harbour(1, a, b, c), away(1, 0, 60), seen(0, 1, 12)), 0, 0, 0, 5, api.OK},
	} {
		if n, until, e := ship.Send(w.h, w.port, w.day); n != w.ship || until != w.until || e != w.e {
			t.Errorf("%d: Send = %d, %d, %d", i, n, until, e)
		}
	}
}

// the chapter's examples
func TestExamples(t *testing.T) {
	h, i, w, n := example(), example(lack(0, 8), came(1, 6)), example(seen(1, 1, 9)), safe(example())
	for at, c := range []struct {
		ship, port int
		days       api.Span
		how        int
	}{{0, 1, api.Span{Lo: 8, Hi: 8}, api.May}, {1, 1, api.Span{Lo: 6, Hi: 7}, api.May}, {1, 0, api.Span{}, api.Never}, {0, 0, api.Span{Lo: 5, Hi: 5}, api.Must}} {
		if days, how := mustTwo[api.Span, int](t)(ship.Calls(h, c.ship, c.port)); days != c.days || how != c.how {
			t.Errorf("%d: Calls = %v, %d", at, days, how)
		}
	}
	for at, c := range []struct {
		h         api.ShHarbour
		sure, may []int
	}{{h, nil, []int{0, 1}}, {i, []int{0}, []int{0}}, {n, nil, nil}} {
		if sure, may := mustTwo[[]int, []int](t)(ship.Sunk(c.h)); !slices.Equal(sure, c.sure) || !slices.Equal(may, c.may) {
			t.Errorf("%d: Sunk = %v, %v", at, sure, may)
		}
	}
	for at, c := range []struct {
		h                 api.ShHarbour
		letter, day, want int
	}{{h, 0, 8, api.May}, {h, 0, 5, api.Never}, {n, 1, 7, api.Must}, {n, 1, 6, api.May}} {
		if how := must[int](t)(ship.Come(c.h, c.letter, c.day)); how != c.want {
			t.Errorf("%d: Come = %d", at, how)
		}
	}
	for at, c := range []struct {
		h      api.ShHarbour
		letter int
		want   []int
	}{{h, 0, []int{0, 1}}, {h, 1, []int{1}}, {i, 0, []int{0}}} {
		if l := must[[]int](t)(ship.By(c.h, c.letter)); !slices.Equal(l, c.want) {
			t.Errorf("%d: By = %v", at, l)
		}
	}
	if one, other := must[int](t)(ship.Before(h, 1, 0)), must[int](t)(ship.Before(i, 1, 0)); one != api.May || other != api.Must {
		t.Errorf("Before = %d, %d", one, other)
	}
	if l, m := must[[]int](t)(ship.Wrong(h)), must[[]int](t)(ship.Wrong(w)); len(l) != 0 || !slices.Equal(m, []int{1}) {
		t.Errorf("Wrong = %v, %v", l, m)
	}
	for at, c := range []struct {
		h           api.ShHarbour
		port, day   int
		ship, until int
		e           api.Errno
	}{{n, 1, 0, 1, 7, api.OK}, {n, 1, 4, 0, 0, api.ErrDown}, {h, 1, 0, 0, 0, api.ErrDown}, {h, 0, 0, 0, 5, api.OK}} {
		if s, until, e := ship.Send(c.h, c.port, c.day); s != c.ship || until != c.until || e != c.e {
			t.Errorf("%d: Send = %d, %d, %d", at, s, until, e)
		}
	}
}
