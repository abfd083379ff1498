package rate_test

import (
	"math"
	"slices"
	"strings"
	"testing"

	"escribano/api"
	"escribano/rate"
)

// wrong is one thing that is wrong with a house: what Check returns of it.
type wrong struct {
	name     string
	change   func(h *api.RaHouse)
	part, at int
	e        api.Errno
}

// aRate, anAgent and anEntry are changes of the rate of the day 1, of the agent 1 and of the entry 1.
func aRate(change func(s *api.Span)) func(h *api.RaHouse) {
	return func(h *api.RaHouse) { change(&h.Rates[1]) }
}

func anAgent(change func(a *api.RaAgent)) func(h *api.RaHouse) {
	return func(h *api.RaHouse) { change(&h.Agents[1]) }
}

func anEntry(change func(x *api.RaEntry)) func(h *api.RaHouse) {
	return func(h *api.RaHouse) { change(&h.Entries[1]) }
}

// days and step are changes of how many days there are, and of the step.
func days(n int) func(h *api.RaHouse) { return func(h *api.RaHouse) { h.Days = n } }

func step(n int) func(h *api.RaHouse) { return func(h *api.RaHouse) { h.Step = n } }

// wrongs returns what can be wrong, in the order of the errors.
func wrongs() []wrong {
	return []wrong{
		{"no days", days(0), 1, 0, api.ErrRange},
		{"too many rates", func(h *api.RaHouse) { h.Rates = append(h.Rates, span(1, 2)) }, 2, 0, api.ErrLong},
		{"rate", aRate(func(s *api.Span) { s.Lo = 0 }), 2, 1, api.ErrRange},
		{"empty rate", aRate(func(s *api.Span) { *s = span(12, 11) }), 2, 1, api.ErrArg},
		{"step", step(21), 3, 0, api.ErrRange},
		{"too many agents", func(h *api.RaHouse) { h.Agents = append(h.Agents, make([]api.RaAgent, 2)...) }, 4, 0, api.ErrLong},
		{"name", anAgent(func(a *api.RaAgent) { a.Name = "Cadiz" }), 4, 1, api.ErrForm},
		{"name twice", anAgent(func(a *api.RaAgent) { a.Name = "lima" }), 4, 1, api.ErrTwice},
		{"fee", anAgent(func(a *api.RaAgent) { a.Fee = 21 }), 4, 1, api.ErrRange},
		{"round", anAgent(func(a *api.RaAgent) { a.Round = 3 }), 4, 1, api.ErrRange},
		{"too many entries", func(h *api.RaHouse) { h.Entries = append(h.Entries, make([]api.RaEntry, 4)...) }, 5, 0, api.ErrLong},
		{"agent", anEntry(func(x *api.RaEntry) { x.Agent = 2 }), 5, 1, api.ErrNone},
		{"day", anEntry(func(x *api.RaEntry) { x.Day = 2 }), 5, 1, api.ErrNone},
		{"near", anEntry(func(x *api.RaEntry) { x.Near = 100 }), 5, 1, api.ErrRange},
		{"far", anEntry(func(x *api.RaEntry) { x.Far = 199 }), 5, 1, api.ErrRange},
	}
}

// wrongRates returns what else can be wrong with days, rates and the step, and what is not.
func wrongRates() []wrong {
	return []wrong{
		{"nothing", func(h *api.RaHouse) {}, 0, 0, api.OK},
		{"nothing there", func(h *api.RaHouse) { *h = api.RaHouse{} }, 1, 0, api.ErrRange},
		{"days below 0", days(-1), 1, 0, api.ErrRange},
		{"too many days", days(4), 1, 0, api.ErrRange},
		{"far days", days(math.MaxInt), 1, 0, api.ErrRange},
		{"far days below 0", days(math.MinInt), 1, 0, api.ErrRange},
		{"four days and rates", func(h *api.RaHouse) { h.Days, h.Rates = 4, append(h.Rates, span(1, 2), span(1, 2)) }, 1, 0, api.ErrRange},
		{"a day without a rate", days(3), 2, 0, api.ErrLong},
		{"a rate without a day", func(h *api.RaHouse) { h.Days, h.Entries = 1, nil }, 2, 0, api.ErrLong},
		{"no rates", func(h *api.RaHouse) { h.Rates = nil }, 2, 0, api.ErrLong},
		{"three days", func(h *api.RaHouse) { h.Days, h.Rates = 3, append(h.Rates, span(1, 20)) }, 0, 0, api.OK},
		{"one day", func(h *api.RaHouse) { h.Days, h.Rates, h.Entries = 1, h.Rates[:1], h.Entries[:1] }, 0, 0, api.OK},
		{"an entry of a day that is gone", func(h *api.RaHouse) { h.Days, h.Rates = 1, h.Rates[:1] }, 5, 1, api.ErrNone},
		{"first rate", func(h *api.RaHouse) { h.Rates[0].Hi = 21 }, 2, 0, api.ErrRange},
		{"all rates", aRate(func(s *api.Span) { *s = span(1, 20) }), 0, 0, api.OK},
		{"one rate", aRate(func(s *api.Span) { *s = span(20, 20) }), 0, 0, api.OK},
		{"great rate", aRate(func(s *api.Span) { s.Hi = 21 }), 2, 1, api.ErrRange},
		{"rates that are too great", aRate(func(s *api.Span) { *s = span(21, 22) }), 2, 1, api.ErrRange},
		{"no end", aRate(func(s *api.Span) { s.Hi = 0 }), 2, 1, api.ErrRange},
		{"rate below 0", aRate(func(s *api.Span) { s.Lo = -1 }), 2, 1, api.ErrRange},
		{"all numbers", aRate(func(s *api.Span) { *s = span(math.MinInt, math.MaxInt) }), 2, 1, api.ErrRange},
		{"far rate ahead of an end", aRate(func(s *api.Span) { *s = span(math.MaxInt, 1) }), 2, 1, api.ErrRange},
		{"no rate in it", aRate(func(s *api.Span) { *s = span(20, 1) }), 2, 1, api.ErrArg},
		{"no step", step(0), 0, 0, api.OK},
		{"greatest step", step(20), 0, 0, api.OK},
		{"step below 0", step(-1), 3, 0, api.ErrRange},
		{"far step", step(math.MaxInt), 3, 0, api.ErrRange},
		{"far step below 0", step(math.MinInt), 3, 0, api.ErrRange},
		{"rates without a truth", func(h *api.RaHouse) { h.Rates[0], h.Rates[1] = span(1, 1), span(20, 20) }, 0, 0, api.OK},
	}
}

// wrongAgents returns what else can be wrong with agents and entries, and what is not.
func wrongAgents() []wrong {
	return []wrong{
		{"no agents and entries", func(h *api.RaHouse) { h.Agents, h.Entries = nil, []api.RaEntry{} }, 0, 0, api.OK},
		{"no agents", func(h *api.RaHouse) { h.Agents = []api.RaAgent{} }, 5, 0, api.ErrNone},
		{"three agents", func(h *api.RaHouse) { h.Agents = append(h.Agents, agent("x", 20, api.RaNear)) }, 0, 0, api.OK},
		{"four agents", func(h *api.RaHouse) { h.Agents = append(h.Agents, agent("x", 0, 0), agent("y", 0, 0)) }, 4, 0, api.ErrLong},
		{"first agent", func(h *api.RaHouse) { h.Agents[0].Name = "0" }, 4, 0, api.ErrForm},
		{"no name", anAgent(func(a *api.RaAgent) { a.Name = "" }), 4, 1, api.ErrForm},
		{"long name", anAgent(func(a *api.RaAgent) { a.Name = strings.Repeat("c", 17) }), 4, 1, api.ErrForm},
		{"name of 16 bytes", anAgent(func(a *api.RaAgent) { a.Name = "c.23456789012345" }), 0, 0, api.OK},
		{"first and last agent", func(h *api.RaHouse) { h.Agents = append(h.Agents, agent("lima", 0, 0)) }, 4, 2, api.ErrTwice},
		{"no fee", anAgent(func(a *api.RaAgent) { a.Fee = 0 }), 0, 0, api.OK},
		{"greatest fee", anAgent(func(a *api.RaAgent) { a.Fee = 20 }), 0, 0, api.OK},
		{"fee below 0", anAgent(func(a *api.RaAgent) { a.Fee = -1 }), 4, 1, api.ErrRange},
		{"far fee", anAgent(func(a *api.RaAgent) { a.Fee = math.MinInt }), 4, 1, api.ErrRange},
		{"down", anAgent(func(a *api.RaAgent) { a.Round = 0 }), 0, 0, api.OK},
		{"near", anAgent(func(a *api.RaAgent) { a.Round = 2 }), 0, 0, api.OK},
		{"round below 0", anAgent(func(a *api.RaAgent) { a.Round = -1 }), 4, 1, api.ErrRange},
		{"far round", anAgent(func(a *api.RaAgent) { a.Round = math.MaxInt }), 4, 1, api.ErrRange},
		{"far round below 0", anAgent(func(a *api.RaAgent) { a.Round = math.MinInt }), 4, 1, api.ErrRange},
		{"five entries", func(h *api.RaHouse) { h.Entries = append(h.Entries, make([]api.RaEntry, 3)...) }, 0, 0, api.OK},
		{"six entries", func(h *api.RaHouse) { h.Entries = append(h.Entries, make([]api.RaEntry, 4)...) }, 5, 0, api.ErrLong},
		{"first entry", func(h *api.RaHouse) { h.Entries[0].Near = -1 }, 5, 0, api.ErrRange},
		{"agent below 0", anEntry(func(x *api.RaEntry) { x.Agent = -1 }), 5, 1, api.ErrNone},
		{"far agent", anEntry(func(x *api.RaEntry) { x.Agent = math.MaxInt }), 5, 1, api.ErrNone},
		{"a third agent, who is no day", func(h *api.RaHouse) {
			h.Agents = append(h.Agents, agent("x", 0, 0))
			h.Entries[1].Day = 2
		}, 5, 1, api.ErrNone},
		{"a third agent", func(h *api.RaHouse) {
			h.Agents = append(h.Agents, agent("x", 0, 0))
			h.Entries[1].Agent = 2
		}, 0, 0, api.OK},
		{"a third day, that is no agent", func(h *api.RaHouse) {
			h.Days, h.Rates = 3, append(h.Rates, span(1, 20))
			h.Entries[1].Agent = 2
		}, 5, 1, api.ErrNone},
		{"a third day", func(h *api.RaHouse) {
			h.Days, h.Rates = 3, append(h.Rates, span(1, 20))
			h.Entries[1].Day = 2
		}, 0, 0, api.OK},
		{"day below 0", anEntry(func(x *api.RaEntry) { x.Day = -1 }), 5, 1, api.ErrNone},
		{"far day", anEntry(func(x *api.RaEntry) { x.Day = math.MinInt }), 5, 1, api.ErrNone},
		{"nothing near", anEntry(func(x *api.RaEntry) { x.Near = 0 }), 0, 0, api.OK},
		{"most near", anEntry(func(x *api.RaEntry) { x.Near = 99 }), 0, 0, api.OK},
		{"near below 0", anEntry(func(x *api.RaEntry) { x.Near = -1 }), 5, 1, api.ErrRange},
		{"far near", anEntry(func(x *api.RaEntry) { x.Near = math.MaxInt }), 5, 1, api.ErrRange},
		{"nothing far", anEntry(func(x *api.RaEntry) { x.Far = 0 }), 0, 0, api.OK},
		{"most far", anEntry(func(x *api.RaEntry) { x.Far = 198 }), 0, 0, api.OK},
		{"untold", anEntry(func(x *api.RaEntry) { x.Far = untold }), 0, 0, api.OK},
		{"far below untold", anEntry(func(x *api.RaEntry) { x.Far = -2 }), 5, 1, api.ErrRange},
		{"far far below untold", anEntry(func(x *api.RaEntry) { x.Far = math.MinInt }), 5, 1, api.ErrRange},
		{"two entries that are the same", func(h *api.RaHouse) { h.Entries[1] = h.Entries[0] }, 0, 0, api.OK},
	}
}

// P8.1: each error, which all functions return first
func TestCheckEach(t *testing.T) {
	for _, w := range slices.Concat(wrongs(), wrongRates(), wrongAgents()) {
		h := exampleJ()
		w.change(&h)
		part, at, e := rate.Check(h)
		if part != w.part || at != w.at || e != w.e {
			t.Errorf("%s: Check = %d, %d, %d", w.name, part, at, e)
		}
		if got := errors(h, arguments{9, -1, 9, -1, 999}); e != api.OK && got != allErrors(e) {
			t.Errorf("%s: errors %v", w.name, got)
		}
	}
}

// P8.1, P1: of two errors the one that is named first, and of two things with an error the first one
func TestCheckFirst(t *testing.T) {
	all := wrongs()
	for i, w := range all {
		for _, x := range all[i+1:] {
			h := exampleJ()
			x.change(&h)
			w.change(&h)
			if part, at, e := rate.Check(h); part != w.part || at != w.at || e != w.e {
				t.Errorf("%s, and %s: Check = %d, %d, %d", w.name, x.name, part, at, e)
			}
		}
	}
	for _, c := range []wrong{
		{"rates", func(h *api.RaHouse) { h.Rates[0], h.Rates[1] = span(12, 11), span(0, 21) }, 2, 0, api.ErrArg},
		{"rate and step", func(h *api.RaHouse) { h.Rates[1], h.Step = span(12, 11), -1 }, 2, 1, api.ErrArg},
		{"agents", func(h *api.RaHouse) { h.Agents[0].Fee, h.Agents[1].Name = 21, "" }, 4, 0, api.ErrRange},
		{"agents of one name", func(h *api.RaHouse) { h.Agents[1] = agent("lima", 21, 3); h.Agents = append(h.Agents, agent("", 0, 0)) }, 4, 1, api.ErrTwice},
		{"agent and entry", func(h *api.RaHouse) { h.Agents[1].Round, h.Entries[0].Agent = -1, -1 }, 4, 1, api.ErrRange},
		{"entries", func(h *api.RaHouse) { h.Entries[0].Far, h.Entries[1].Day = -2, 2 }, 5, 0, api.ErrRange},
		{"entries with one error", func(h *api.RaHouse) { h.Entries[0].Day, h.Entries[1].Agent = 2, 2 }, 5, 0, api.ErrNone},
	} {
		h := exampleJ()
		c.change(&h)
		if part, at, e := rate.Check(h); part != c.part || at != c.at || e != c.e {
			t.Errorf("%s: Check = %d, %d, %d", c.name, part, at, e)
		}
	}
}

// P8.2 to P8.6, P1: the errors behind that of Check, in their order
func TestErrors(t *testing.T) {
	const no, zero, down, arg, far = api.ErrNone, api.ErrZero, api.ErrDown, api.ErrArg, api.ErrRange
	one := with(by(plain(20, span(5, 5), span(1, 20), span(5, 5)), agent("a", 0, 0)), entry(0, 1, 10, 7), entry(0, 1, 10, untold))
	// three entries that contradict each other, and one that is untold
	three := with(plain(20, span(1, 20)), entry(0, 0, 10, 7), entry(0, 0, 10, 8), entry(0, 0, 10, 9), entry(0, 0, 10, untold))
	never := with(plain(1, span(1, 5), span(7, 9)), entry(0, 0, 10, 5), entry(0, 1, 10, untold))
	empty := by(plain(1, span(1, 5)))
	for i, c := range []struct {
		h    api.RaHouse
		a    arguments
		want [7]api.Errno
	}{
		{exampleH(), arguments{}, [7]api.Errno{}},
		{exampleH(), arguments{1, 1, 1, 99, 89}, [7]api.Errno{3: arg}},
		{exampleJ(), arguments{1, 1, 1, 99, 89}, [7]api.Errno{}},
		{exampleH(), arguments{2, 0, 0, 0, 0}, [7]api.Errno{2: no, 5: no}},
		{exampleH(), arguments{-1, 0, 0, 0, 0}, [7]api.Errno{2: no, 5: no}},
		{exampleH(), arguments{0, 2, 0, 0, 0}, [7]api.Errno{1: no, 2: no, 6: no}},
		{exampleH(), arguments{0, -1, 0, 0, 0}, [7]api.Errno{1: no, 2: no, 6: no}},
		{exampleH(), arguments{0, 0, 2, 0, 0}, [7]api.Errno{3: no}},
		{exampleH(), arguments{0, 0, -1, 0, 0}, [7]api.Errno{3: no}},
		{exampleH(), arguments{0, 0, 0, 100, 0}, [7]api.Errno{2: far}},
		{exampleH(), arguments{0, 0, 0, -1, 0}, [7]api.Errno{2: far}},
		{exampleH(), arguments{0, 0, 0, 0, 198}, [7]api.Errno{6: down}},
		{exampleH(), arguments{0, 0, 0, 0, 199}, [7]api.Errno{6: far}},
		{exampleH(), arguments{0, 0, 0, 0, -1}, [7]api.Errno{6: far}},
		{exampleH(), arguments{math.MinInt, math.MaxInt, math.MinInt, 0, 0}, [7]api.Errno{1: no, 2: no, 3: no, 5: no, 6: no}},
		{exampleH(), arguments{math.MaxInt, math.MinInt, math.MaxInt, 0, 0}, [7]api.Errno{1: no, 2: no, 3: no, 5: no, 6: no}},
		{exampleH(), arguments{0, 0, 0, math.MaxInt, math.MinInt}, [7]api.Errno{2: far, 6: far}},
		{exampleH(), arguments{0, 0, 0, math.MinInt, math.MaxInt}, [7]api.Errno{2: far, 6: far}},
		// what is no index, ahead of numbers that are not in their range
		{exampleH(), arguments{2, 0, 0, 100, 199}, [7]api.Errno{2: no, 5: no, 6: far}},
		{exampleH(), arguments{0, 2, 0, -1, -1}, [7]api.Errno{1: no, 2: no, 6: no}},
		// three days, two entries and one agent
		{one, arguments{0, 2, 1, 0, 0}, [7]api.Errno{3: arg}},
		{one, arguments{1, 2, 2, 0, 0}, [7]api.Errno{2: no, 3: no, 5: no}},
		{one, arguments{0, 3, 0, 0, 0}, [7]api.Errno{1: no, 2: no, 6: no}},
		// no agents and entries
		{empty, arguments{}, [7]api.Errno{2: no, 3: no, 5: no, 6: down}},
		{empty, arguments{0, 0, 0, 100, 199}, [7]api.Errno{2: no, 3: no, 5: no, 6: far}},
		// no truth, but one without an entry
		{exampleV(), arguments{}, [7]api.Errno{zero, zero, zero, 0, 0, zero, zero}},
		{exampleV(), arguments{0, 0, 1, 99, 198}, [7]api.Errno{zero, zero, zero, 0, 0, zero, zero}},
		{exampleV(), arguments{2, 0, 2, 0, 0}, [7]api.Errno{zero, zero, no, no, 0, no, zero}},
		{exampleV(), arguments{0, 2, 0, 0, 0}, [7]api.Errno{zero, no, no, 0, 0, zero, no}},
		{exampleV(), arguments{0, 0, 0, 100, 199}, [7]api.Errno{zero, zero, far, 0, 0, zero, far}},
		// no truth without an entry either
		{three, arguments{}, [7]api.Errno{zero, zero, zero, zero, 0, zero, zero}},
		{three, arguments{entry: 2}, [7]api.Errno{zero, zero, zero, zero, 0, zero, zero}},
		{three, arguments{entry: 3}, [7]api.Errno{zero, zero, zero, arg, 0, zero, zero}},
		{three, arguments{entry: 4}, [7]api.Errno{zero, zero, zero, no, 0, zero, zero}},
		// no truth without all entries
		{never, arguments{}, [7]api.Errno{zero, zero, zero, zero, down, zero, zero}},
		{never, arguments{entry: 1}, [7]api.Errno{zero, zero, zero, arg, down, zero, zero}},
		{never, arguments{3, 2, 2, 100, 199}, [7]api.Errno{zero, no, no, no, down, no, no}},
		{by(plain(1, span(1, 5), span(7, 9))), arguments{}, [7]api.Errno{zero, zero, no, no, down, no, zero}},
	} {
		if got := errors(c.h, c.a); got != c.want {
			t.Errorf("%d: errors %v", i, got)
		}
	}
}

// P8.2 to P8.6, R2: with an error every other result is its zero value
func TestZeroWithError(t *testing.T) {
	bad := exampleJ()
	bad.Entries[1].Near = 100
	never := with(plain(1, span(1, 5), span(7, 9)), entry(0, 0, 10, 5))
	for i, c := range []struct {
		h api.RaHouse
		a arguments
	}{{bad, arguments{1, 1, 1, 50, 20}}, {never, arguments{1, 1, 0, 50, 20}}, {exampleH(), arguments{2, 2, 2, 50, 20}}, {exampleH(), arguments{1, 1, 1, 100, 199}}, {exampleV(), arguments{1, 1, 1, 50, 20}}, {exampleH(), arguments{1, 1, 1, 50, 198}}} {
		first, many, e := rate.First(c.h)
		rates, f := rate.Rate(c.h, c.a.day)
		worth, g := rate.Worth(c.h, c.a.agent, c.a.day, c.a.near)
		agree, h := rate.Agree(c.h, c.a.entry)
		out, j := rate.Wrong(c.h)
		paid, k := rate.Paid(c.h, c.a.agent)
		agent, near, l := rate.Send(c.h, c.a.day, c.a.far)
		if l == api.OK {
			t.Errorf("%d: Send = %d, %d", i, agent, near)
		}
		for at, r := range []struct {
			e    api.Errno
			zero bool
		}{{e, len(first) == 0 && many == 0}, {f, rates == api.Span{}}, {g, worth == api.Span{}}, {h, agree == 0}, {j, len(out) == 0}, {k, paid == api.Span{}}, {l, agent == 0 && near == 0}} {
			if r.e != api.OK && !r.zero {
				t.Errorf("%d: the result %d has the error %d", i, at, r.e)
			}
		}
	}
}

// P8.2: rates that change slowly, and what entries tell of them
func TestRates(t *testing.T) {
	all := span(1, 20)
	for i, c := range []struct {
		h     api.RaHouse
		first []int
		many  int
		rates []api.Span
	}{
		{plain(0, span(5, 5)), []int{5}, 1, []api.Span{span(5, 5)}},
		{plain(0, all), []int{1}, 20, []api.Span{all}},
		{plain(20, all, all, all), []int{1, 1, 1}, 8000, []api.Span{all, all, all}},
		{plain(19, all, all, all), []int{1, 1, 1}, 8000, []api.Span{all, all, all}},
		{plain(18, all, all), []int{1, 1}, 398, []api.Span{all, all}},
		{by(plain(1, span(3, 4), span(3, 4))), []int{3, 3}, 4, []api.Span{span(3, 4), span(3, 4)}},
		// by the step
		{plain(0, span(3, 8), span(5, 12)), []int{5, 5}, 4, []api.Span{span(5, 8), span(5, 8)}},
		{plain(1, span(3, 5), span(6, 9)), []int{5, 6}, 1, []api.Span{span(5, 5), span(6, 6)}},
		{plain(2, span(3, 5), span(6, 9)), []int{4, 6}, 3, []api.Span{span(4, 5), span(6, 7)}},
		{plain(1, span(6, 9), span(3, 5)), []int{6, 5}, 1, []api.Span{span(6, 6), span(5, 5)}},
		{plain(1, span(8, 9), span(7, 7), span(1, 6)), []int{8, 7, 6}, 1, []api.Span{span(8, 8), span(7, 7), span(6, 6)}},
		// by way of another day: the first day and the last one can be two steps apart
		{plain(2, span(3, 5), all, span(8, 9)), []int{4, 6, 8}, 4, []api.Span{span(4, 5), span(6, 7), span(8, 9)}},
		{plain(1, span(3, 5), span(1, 2), span(3, 9)), []int{3, 2, 3}, 1, []api.Span{span(3, 3), span(2, 2), span(3, 3)}},
		{plain(0, span(3, 5), all, span(5, 9)), []int{5, 5, 5}, 1, []api.Span{span(5, 5), span(5, 5), span(5, 5)}},
		// by entries
		{with(plain(0, all), entry(0, 0, 10, 7)), []int{7}, 1, []api.Span{span(7, 7)}},
		{with(plain(0, all), entry(0, 0, 10, untold)), []int{1}, 20, []api.Span{all}},
		{with(plain(0, all), entry(0, 0, 1, 0)), []int{1}, 9, []api.Span{span(1, 9)}},
		{with(plain(0, all), entry(1, 0, 1, 1)), []int{1}, 10, []api.Span{span(1, 10)}},
		{with(plain(0, all), entry(2, 0, 1, 1)), []int{5}, 10, []api.Span{span(5, 14)}},
		{with(plain(0, all), entry(0, 0, 1, 0), entry(2, 0, 1, 1)), []int{5}, 5, []api.Span{span(5, 9)}},
		{with(plain(0, all), entry(1, 0, 0, 0)), []int{1}, 20, []api.Span{all}},
		{with(by(plain(0, all), agent("a", 20, api.RaUp)), entry(0, 0, 20, 0)), []int{1}, 20, []api.Span{all}},
		{with(by(plain(0, all), agent("a", 19, api.RaUp)), entry(0, 0, 20, 1)), []int{1}, 10, []api.Span{span(1, 10)}},
		// by entries of other days
		{with(plain(2, all, all), entry(0, 0, 10, 7)), []int{7, 5}, 5, []api.Span{span(7, 7), span(5, 9)}},
		{with(plain(2, all, all), entry(0, 1, 10, 7)), []int{5, 7}, 5, []api.Span{span(5, 9), span(7, 7)}},
		{with(plain(2, all, all, all), entry(0, 1, 10, 2)), []int{1, 2, 1}, 16, []api.Span{span(1, 4), span(2, 2), span(1, 4)}},
		{with(plain(2, all, all, all), entry(0, 0, 10, 7), entry(0, 2, 10, 11)), []int{7, 9, 11}, 1, []api.Span{span(7, 7), span(9, 9), span(11, 11)}},
		{with(plain(3, all, all, all), entry(0, 0, 10, 7), entry(0, 2, 10, 11)), []int{7, 8, 11}, 3, []api.Span{span(7, 7), span(8, 10), span(11, 11)}},
	} {
		first, many := mustTwo[[]int, int](t)(rate.First(c.h))
		if rates := ratesOf(t, c.h); !slices.Equal(first, c.first) || many != c.many || !slices.Equal(rates, c.rates) {
			t.Errorf("%d: First = %v, %d, Rate = %v", i, first, many, rates)
		}
	}
}

// P8.2 to P8.4, P8.6: what has no truth, which is no error of the house
func TestNoTruth(t *testing.T) {
	all := span(1, 20)
	for i, h := range []api.RaHouse{
		with(plain(1, span(3, 5), span(7, 9)), entry(0, 0, 10, 5)),
		with(plain(0, span(3, 5), all, span(6, 9)), entry(0, 0, 10, 5)),
		with(plain(20, span(3, 5)), entry(0, 0, 10, 6), entry(0, 0, 10, 6)),
		with(plain(20, all), entry(0, 0, 10, 0), entry(0, 0, 10, 0)),
		with(plain(20, all), entry(0, 0, 10, 21), entry(0, 0, 10, 21)),
		with(plain(20, all), entry(0, 0, 20, 3), entry(0, 0, 0, 1)),
		with(plain(20, all), entry(1, 0, 1, 0), entry(1, 0, 1, 3)),
		with(plain(20, all), entry(0, 0, 10, 5), entry(0, 0, 10, 6), entry(0, 0, 10, 7)),
		with(plain(1, all, all, all), entry(0, 0, 10, 5), entry(0, 2, 10, 8), entry(0, 0, 10, 5), entry(0, 2, 10, 8)),
	} {
		if part, at, e := rate.Check(h); part != 0 || at != 0 || e != api.OK {
			t.Errorf("%d: Check = %d, %d, %d", i, part, at, e)
		}
		got := errors(h, arguments{})
		if e := got[4]; e != api.OK && e != api.ErrDown {
			t.Errorf("%d: the error of Wrong is %d", i, e)
		}
		got[4] = api.ErrZero
		if got != allErrors(api.ErrZero) {
			t.Errorf("%d: errors %v", i, got)
		}
	}
}

// P8.3: what an agent pays at one rate
func TestRounding(t *testing.T) {
	for i, c := range []struct{ fee, near, rate, down, up, nearest int }{
		{0, 0, 20, 0, 0, 0},
		{0, 10, 7, 7, 7, 7},
		{0, 99, 20, 198, 198, 198},
		{0, 1, 1, 0, 1, 0},
		{0, 4, 1, 0, 1, 0},
		{0, 5, 1, 0, 1, 1},
		{0, 6, 1, 0, 1, 1},
		{0, 9, 1, 0, 1, 1},
		{0, 10, 1, 1, 1, 1},
		{0, 11, 1, 1, 2, 1},
		{0, 15, 11, 16, 17, 17},
		{0, 8, 13, 10, 11, 10},
		{0, 8, 12, 9, 10, 10},
		{0, 99, 19, 188, 189, 188},
		{0, 95, 19, 180, 181, 181},
		// the fee comes first
		{1, 26, 12, 30, 30, 30},
		{3, 18, 11, 16, 17, 17},
		{20, 99, 13, 102, 103, 103},
		{20, 99, 20, 158, 158, 158},
		{5, 6, 5, 0, 1, 1},
		{5, 6, 4, 0, 1, 0},
		{5, 5, 20, 0, 0, 0},
		{5, 4, 20, 0, 0, 0},
		{20, 0, 20, 0, 0, 0},
		{20, 19, 7, 0, 0, 0},
	} {
		h := by(plain(0, span(c.rate, c.rate)), agent("a", c.fee, api.RaDown), agent("b", c.fee, api.RaUp), agent("c", c.fee, api.RaNear))
		for who, want := range []int{c.down, c.up, c.nearest} {
			if s := must[api.Span](t)(rate.Worth(h, who, 0, c.near)); s != span(want, want) {
				t.Errorf("%d: Worth by %d = %v", i, who, s)
			}
			if s := must[api.Span](t)(rate.Paid(with(h, entry(who, 0, c.near, untold)), who)); s != span(want, want) {
				t.Errorf("%d: Paid by %d = %v", i, who, s)
			}
			if how := agreed(t, with(h, entry(who, 0, c.near, want)), 0); how != api.Must {
				t.Errorf("%d: Agree by %d = %d", i, who, how)
			}
		}
	}
}

// P8.3
func TestWorth(t *testing.T) {
	h := with(plain(2, span(5, 12), span(1, 20)), entry(0, 0, 10, untold))
	told := with(h, entry(1, 1, 1, 2), entry(0, 0, 10, 9))
	for i, c := range []struct {
		h                api.RaHouse
		agent, day, near int
		want             api.Span
	}{
		{h, 0, 0, 10, span(5, 12)},
		{h, 0, 1, 10, span(3, 14)},
		{h, 0, 0, 1, span(0, 1)},
		{h, 1, 0, 1, span(1, 2)},
		{h, 2, 0, 1, span(1, 1)},
		{h, 2, 1, 1, span(0, 1)},
		{h, 1, 1, 99, span(30, 139)},
		{h, 0, 1, 0, span(0, 0)},
		// the rate of the day 1 is 11 at the least, that of the day 0 is 9
		{told, 0, 1, 10, span(11, 11)},
		{told, 0, 0, 10, span(9, 9)},
		{told, 2, 0, 55, span(50, 50)},
		{with(h, entry(1, 1, 1, 2)), 0, 0, 10, span(9, 12)},
		{with(h, entry(1, 1, 1, 2)), 0, 1, 10, span(11, 14)},
		{with(h, entry(1, 1, 1, 1)), 2, 1, 25, span(8, 25)},
	} {
		if s := must[api.Span](t)(rate.Worth(c.h, c.agent, c.day, c.near)); s != c.want {
			t.Errorf("%d: Worth = %v", i, s)
		}
	}
}

// P8.3: what is paid for all entries together
func TestPaid(t *testing.T) {
	h := plain(1, span(5, 8), span(5, 8), span(20, 20))
	h.Step = 20
	slow := plain(0, span(5, 8), span(5, 8))
	for i, c := range []struct {
		h    api.RaHouse
		want []api.Span
	}{
		{h, []api.Span{{}, {}, {}}},
		{with(h, entry(0, 0, 10, untold)), []api.Span{span(5, 8), {}, {}}},
		{with(h, entry(2, 2, 10, untold)), []api.Span{{}, {}, span(20, 20)}},
		{with(h, entry(0, 0, 10, untold), entry(0, 1, 10, untold), entry(1, 2, 1, untold)), []api.Span{span(10, 16), span(2, 2), {}}},
		{with(h, entry(0, 0, 10, untold), entry(0, 0, 10, untold)), []api.Span{span(10, 16), {}, {}}},
		{with(h, entry(0, 0, 10, 6), entry(0, 0, 10, untold), entry(0, 1, 10, untold)), []api.Span{span(17, 20), {}, {}}},
		{with(h, entry(0, 0, 10, 6), entry(0, 1, 10, 5), entry(0, 2, 3, 6)), []api.Span{span(17, 17), {}, {}}},
		{with(h, entry(0, 0, 1, untold), entry(1, 0, 1, untold), entry(2, 0, 1, untold)), []api.Span{span(0, 0), span(1, 1), span(1, 1)}},
		{with(h, entry(0, 0, 1, 0), entry(1, 0, 1, 1), entry(2, 1, 1, 1), entry(2, 1, 3, untold), entry(1, 1, 3, 2)), []api.Span{span(0, 0), span(3, 3), span(3, 3)}},
		// each entry is rounded for itself
		{with(h, entry(1, 0, 1, untold), entry(1, 0, 1, untold), entry(1, 0, 1, untold), entry(0, 0, 3, untold)), []api.Span{span(1, 2), span(3, 3), {}}},
		// the rates of both days are the same
		{with(slow, entry(0, 0, 10, untold), entry(0, 1, 20, untold)), []api.Span{span(15, 24), {}, {}}},
		{with(slow, entry(0, 0, 10, untold), entry(1, 1, 10, 7)), []api.Span{span(7, 7), span(7, 7), {}}},
	} {
		for agent, want := range c.want {
			if s := must[api.Span](t)(rate.Paid(c.h, agent)); s != want {
				t.Errorf("%d: Paid of %d = %v", i, agent, s)
			}
		}
	}
}

// P8.4: over all truths without the entry
func TestAgree(t *testing.T) {
	const must, may, never, zero, arg = api.Must, api.May, api.Never, -2, -1
	h := plain(2, span(5, 12), span(1, 20))
	exact := plain(2, span(7, 7))
	for i, c := range []struct {
		h    api.RaHouse
		want []int
	}{
		{with(h, entry(0, 0, 10, 5)), []int{may}},
		{with(h, entry(0, 0, 10, 12)), []int{may}},
		{with(h, entry(0, 0, 10, 4)), []int{never}},
		{with(h, entry(0, 0, 10, 13)), []int{never}},
		{with(h, entry(2, 0, 1, 1)), []int{must}},
		{with(h, entry(2, 0, 1, 0)), []int{never}},
		{with(h, entry(0, 1, 10, untold)), []int{arg}},
		// by the step
		{with(h, entry(0, 1, 10, 3)), []int{may}},
		{with(h, entry(0, 1, 10, 2)), []int{never}},
		// by other entries
		{with(h, entry(0, 0, 10, 9), entry(0, 1, 10, 11)), []int{may, may}},
		{with(h, entry(0, 0, 10, 9), entry(0, 1, 10, 12)), []int{never, never}},
		{with(h, entry(0, 0, 10, 9), entry(0, 1, 10, untold)), []int{may, arg}},
		{with(h, entry(0, 0, 10, 9), entry(1, 0, 10, 9)), []int{must, must}},
		{with(h, entry(0, 0, 10, 9), entry(2, 0, 5, 5)), []int{may, must}},
		{with(exact, entry(0, 0, 10, 7), entry(0, 0, 1, 0)), []int{must, must}},
		{with(exact, entry(0, 0, 10, 7), entry(0, 0, 1, 1)), []int{zero, never}},
		{with(exact, entry(0, 0, 10, 6), entry(0, 0, 1, 1)), []int{zero, zero}},
		{with(exact, entry(0, 0, 10, 6), entry(0, 0, 1, untold)), []int{never, arg}},
		{with(h, entry(0, 0, 10, 7), entry(0, 0, 10, 8), entry(0, 0, 10, 8)), []int{never, zero, zero}},
	} {
		for at, want := range c.want {
			if how := agreed(t, c.h, at); how != want {
				t.Errorf("%d: Agree of %d = %d", i, at, how)
			}
		}
	}
}

// P8.5
func TestWrong(t *testing.T) {
	all := span(1, 20)
	for i, c := range []struct {
		h    api.RaHouse
		want []int
		e    api.Errno
	}{
		{plain(0, all), nil, api.OK},
		{with(plain(0, all), entry(0, 0, 10, 7), entry(0, 0, 10, untold), entry(0, 0, 10, 7)), nil, api.OK},
		{with(plain(0, all), entry(0, 0, 10, 7), entry(0, 0, 10, 8)), []int{0}, api.OK},
		{with(plain(0, all), entry(0, 0, 10, 7), entry(0, 0, 10, 8), entry(0, 0, 10, 8)), []int{0}, api.OK},
		{with(plain(0, all), entry(0, 0, 10, 7), entry(0, 0, 10, 8), entry(0, 0, 10, 7)), []int{1}, api.OK},
		{with(plain(0, all), entry(0, 0, 10, 7), entry(0, 0, 10, untold), entry(0, 0, 10, 8), entry(0, 0, 10, 9)), []int{0, 2}, api.OK},
		{with(plain(0, all), entry(0, 0, 10, 5), entry(0, 0, 10, 6), entry(0, 0, 10, 5), entry(0, 0, 10, 6), entry(0, 0, 10, 7)), []int{0, 2, 4}, api.OK},
		{with(plain(0, all), entry(0, 0, 10, 5), entry(0, 0, 10, 6), entry(0, 0, 10, 7), entry(0, 0, 10, 8), entry(0, 0, 10, 9)), []int{0, 1, 2, 3}, api.OK},
		{with(plain(0, all), entry(0, 0, 10, 21)), []int{0}, api.OK},
		{with(plain(0, all), entry(0, 0, 10, 0), entry(0, 0, 10, 21), entry(0, 0, 10, 20)), []int{0, 1}, api.OK},
		{with(plain(0, all), entry(0, 0, 10, 7), entry(0, 0, 9, 6), entry(1, 0, 9, 6)), []int{2}, api.OK},
		{with(plain(0, all), entry(0, 0, 10, 7), entry(0, 0, 9, 6), entry(1, 0, 9, 7)), nil, api.OK},
		// entries of several days
		{with(plain(2, all, all), entry(0, 0, 10, 7), entry(0, 1, 10, 9)), nil, api.OK},
		{with(plain(2, all, all), entry(0, 0, 10, 7), entry(0, 1, 10, 10)), []int{0}, api.OK},
		{with(plain(2, all, all), entry(0, 0, 10, 7), entry(0, 1, 10, 10), entry(1, 0, 10, 7)), []int{1}, api.OK},
		{with(plain(2, all, all, all), entry(0, 0, 10, 7), entry(0, 2, 10, 12), entry(0, 1, 10, 9)), []int{1}, api.OK},
		{with(plain(2, all, all, all), entry(0, 0, 10, 7), entry(0, 2, 10, 11), entry(0, 1, 10, 8)), []int{1}, api.OK},
		// rates that cannot be
		{plain(1, span(1, 5), span(7, 9)), nil, api.ErrDown},
		{with(plain(1, span(1, 5), span(7, 9)), entry(0, 0, 10, 5)), nil, api.ErrDown},
		{with(plain(1, span(1, 5), span(7, 9)), entry(0, 0, 10, 6), entry(0, 0, 10, untold)), nil, api.ErrDown},
		{by(plain(1, span(1, 5), all, span(8, 9))), nil, api.ErrDown},
	} {
		if l, e := rate.Wrong(c.h); !slices.Equal(l, c.want) || e != c.e {
			t.Errorf("%d: Wrong = %v, %d", i, l, e)
		}
	}
}

// P8.6
func TestSend(t *testing.T) {
	none := sent{-1, -1}
	ten := span(10, 10)
	h := with(plain(2, span(5, 12), span(1, 20)), entry(0, 0, 10, 9))
	fees := by(plain(0, span(5, 9)), agent("a", 9, api.RaDown), agent("b", 3, api.RaUp), agent("c", 3, api.RaNear))
	for i, c := range []struct {
		h        api.RaHouse
		day, far int
		want     sent
	}{
		{by(plain(0, ten)), 0, 0, none},
		{by(plain(0, ten)), 0, 1, none},
		{plain(0, ten), 0, 0, sent{0, 0}},
		{plain(0, ten), 0, 1, sent{0, 1}},
		{plain(0, ten), 0, 99, sent{0, 99}},
		{plain(0, ten), 0, 100, none},
		{plain(0, span(20, 20)), 0, 198, sent{0, 99}},
		{plain(0, span(19, 20)), 0, 198, none},
		{plain(0, span(19, 20)), 0, 189, sent{1, 99}},
		{plain(0, span(19, 20)), 0, 188, sent{0, 99}},
		{by(plain(0, span(20, 20)), agent("a", 1, api.RaUp)), 0, 198, none},
		{by(plain(0, span(20, 20)), agent("a", 20, api.RaUp)), 0, 158, sent{0, 99}},
		{by(plain(0, span(20, 20)), agent("a", 20, api.RaUp)), 0, 159, none},
		{by(plain(0, span(20, 20)), agent("a", 20, api.RaUp)), 0, 1, sent{0, 21}},
		{by(plain(0, span(20, 20)), agent("a", 20, api.RaUp)), 0, 0, sent{0, 0}},
		// who rounds up pays more
		{plain(0, span(1, 1)), 0, 1, sent{1, 1}},
		{plain(0, span(1, 1)), 0, 2, sent{1, 11}},
		{plain(0, span(15, 15)), 0, 3, sent{0, 2}},
		{plain(0, span(15, 15)), 0, 5, sent{1, 3}},
		{by(plain(0, span(15, 15)), agent("a", 0, api.RaDown), agent("b", 0, api.RaNear), agent("c", 0, api.RaUp)), 0, 5, sent{1, 3}},
		{by(plain(0, span(13, 13)), agent("a", 0, api.RaDown), agent("b", 0, api.RaNear), agent("c", 0, api.RaUp)), 0, 6, sent{2, 4}},
		// fees
		{fees, 0, 0, sent{0, 0}},
		{fees, 0, 1, sent{1, 4}},
		{by(fees, fees.Agents[0], fees.Agents[2], fees.Agents[1]), 0, 1, sent{1, 4}},
		{by(fees, agent("a", 9, api.RaDown), agent("b", 3, api.RaDown)), 0, 10, sent{1, 23}},
		{by(fees, agent("a", 3, api.RaDown), agent("b", 3, api.RaDown)), 0, 10, sent{0, 23}},
		{by(fees, agent("a", 4, api.RaUp), agent("b", 3, api.RaDown)), 0, 10, sent{0, 23}},
		// at the least rate that there is in a truth: 9 on the day 0, 7 on the day 1
		{h, 0, 9, sent{1, 9}},
		{h, 0, 10, sent{1, 11}},
		{h, 1, 7, sent{1, 9}},
		{h, 1, 8, sent{1, 11}},
		{h, 1, 69, sent{1, 98}},
		{by(h, h.Agents[0], h.Agents[2], h.Agents[1]), 1, 69, sent{1, 98}},
		{h, 1, 70, sent{1, 99}},
		{h, 1, 71, none},
		{without(h, 0), 1, 3, sent{1, 7}},
		{without(h, 0), 0, 5, sent{1, 9}},
	} {
		if s := sendBy(t, c.h, c.day, c.far); s != c.want {
			t.Errorf("%d: Send = %v", i, s)
		}
	}
}

// the chapter's examples
func TestExamples(t *testing.T) {
	h, j, v, w := exampleH(), exampleJ(), exampleV(), exampleW()
	for i, c := range []struct {
		h     api.RaHouse
		first []int
		many  int
	}{{h, []int{12, 10}, 5}, {j, []int{12, 11}, 1}} {
		if first, many := mustTwo[[]int, int](t)(rate.First(c.h)); !slices.Equal(first, c.first) || many != c.many {
			t.Errorf("%d: First = %v, %d", i, first, many)
		}
	}
	if rates := ratesOf(t, h); !slices.Equal(rates, []api.Span{span(12, 12), span(10, 14)}) {
		t.Errorf("Rate = %v", rates)
	}
	for i, c := range []struct {
		agent, day, near int
		want             api.Span
	}{{0, 1, 21, span(20, 28)}, {1, 1, 18, span(15, 21)}, {1, 0, 3, span(0, 0)}} {
		if s := must[api.Span](t)(rate.Worth(h, c.agent, c.day, c.near)); s != c.want {
			t.Errorf("%d: Worth = %v", i, s)
		}
	}
	if one, two, three := agreed(t, j, 0), agreed(t, j, 1), agreed(t, v, 1); one != api.May || two != api.May || three != api.Never {
		t.Errorf("Agree = %d, %d, %d", one, two, three)
	}
	for i, c := range []struct {
		h    api.RaHouse
		want []int
	}{{j, nil}, {v, []int{0}}, {w, []int{1}}} {
		if l := must[[]int](t)(rate.Wrong(c.h)); !slices.Equal(l, c.want) {
			t.Errorf("%d: Wrong = %v", i, l)
		}
	}
	if one, two := must[api.Span](t)(rate.Paid(h, 0)), must[api.Span](t)(rate.Paid(h, 1)); one != span(30, 30) || two != span(15, 21) {
		t.Errorf("Paid = %v, %v", one, two)
	}
	if one, two := sendBy(t, h, 0, 30), sendBy(t, h, 1, 15); one != (sent{0, 26}) || two != (sent{0, 16}) {
		t.Errorf("Send = %v, %v", one, two)
	}
}
