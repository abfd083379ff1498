package rate_test

import (
	"math/rand/v2"
	"slices"
	"testing"

	"escribano/api"
	"escribano/rate"
)

// untold is what a book says of an entry that is untold.
const untold = api.RaUntold

// span is a span.
func span(lo, hi int) api.Span { return api.Span{Lo: lo, Hi: hi} }

// agent is an agent.
func agent(name string, fee, round int) api.RaAgent {
	return api.RaAgent{Name: name, Fee: fee, Round: round}
}

// entry is an entry.
func entry(agent, day, near, far int) api.RaEntry {
	return api.RaEntry{Agent: agent, Day: day, Near: near, Far: far}
}

// example is H of the document's examples, with what is told of the entry 1.
func example(far int) api.RaHouse {
	return api.RaHouse{
		Days: 2, Rates: []api.Span{span(10, 14), span(8, 16)}, Step: 2,
		Agents:  []api.RaAgent{agent("lima", 1, api.RaDown), agent("cadiz", 3, api.RaUp)},
		Entries: []api.RaEntry{entry(0, 0, 26, 30), entry(1, 1, 18, far)},
	}
}

// exampleH, exampleJ, exampleV and exampleW are H, J, V and W of the document's examples.
func exampleH() api.RaHouse { return example(untold) }
func exampleJ() api.RaHouse { return example(17) }
func exampleV() api.RaHouse { return example(24) }
func exampleW() api.RaHouse { return example(25) }

// plain is a house with a step and rates, and with agents without fees: 0 rounds down, 1 up, and 2 to the nearest number.
func plain(step int, rates ...api.Span) api.RaHouse {
	return api.RaHouse{
		Days: len(rates), Rates: rates, Step: step,
		Agents: []api.RaAgent{agent("a", 0, api.RaDown), agent("b", 0, api.RaUp), agent("c", 0, api.RaNear)},
	}
}

// by is a house with other agents.
func by(h api.RaHouse, agents ...api.RaAgent) api.RaHouse {
	h.Agents = agents
	return h
}

// with is a house with more entries, and without one without some of them.
func with(h api.RaHouse, more ...api.RaEntry) api.RaHouse {
	h.Entries = slices.Concat(h.Entries, more)
	return h
}

func without(h api.RaHouse, out ...int) api.RaHouse {
	var left []api.RaEntry
	for at, x := range h.Entries {
		if !slices.Contains(out, at) {
			left = append(left, x)
		}
	}
	h.Entries = left
	return h
}

// cloned is a house that shares no memory with h; sameHouse reports whether two houses are equal.
func cloned(h api.RaHouse) api.RaHouse {
	h.Rates, h.Agents, h.Entries = slices.Clone(h.Rates), slices.Clone(h.Agents), slices.Clone(h.Entries)
	return h
}

func sameHouse(a, b api.RaHouse) bool {
	return a.Days == b.Days && a.Step == b.Step && slices.Equal(a.Rates, b.Rates) && slices.Equal(a.Agents, b.Agents) && slices.Equal(a.Entries, b.Entries)
}

// arguments are what functions are given beside a house.
type arguments struct{ agent, day, entry, near, far int }

// errors returns the error of each function but Check.
func errors(h api.RaHouse, a arguments) [7]api.Errno {
	_, _, first := rate.First(h)
	_, rates := rate.Rate(h, a.day)
	_, worth := rate.Worth(h, a.agent, a.day, a.near)
	_, agree := rate.Agree(h, a.entry)
	_, wrong := rate.Wrong(h)
	_, paid := rate.Paid(h, a.agent)
	_, _, send := rate.Send(h, a.day, a.far)
	return [7]api.Errno{first, rates, worth, agree, wrong, paid, send}
}

// allErrors is an error of all functions but Check.
func allErrors(e api.Errno) [7]api.Errno { return [7]api.Errno{e, e, e, e, e, e, e} }

// must returns the result of a call, which must have no error; mustTwo those of a call with two results.
func must[T any](t *testing.T) func(result T, e api.Errno) T {
	return func(result T, e api.Errno) T {
		t.Helper()
		if e != api.OK {
			t.Fatalf("error %d", e)
		}
		return result
	}
}

func mustTwo[T, U any](t *testing.T) func(one T, two U, e api.Errno) (T, U) {
	return func(one T, two U, e api.Errno) (T, U) {
		t.Helper()
		if e != api.OK {
			t.Fatalf("error %d", e)
		}
		return one, two
	}
}

// ratesOf returns Rate of each day.
func ratesOf(t *testing.T, h api.RaHouse) []api.Span {
	t.Helper()
	var l []api.Span
	for day := range h.Days {
		l = append(l, must[api.Span](t)(rate.Rate(h, day)))
	}
	return l
}

// areWithin reports whether each span is within the other one.
func areWithin(spans, others []api.Span) bool {
	for at, s := range spans {
		if s.Lo < others[at].Lo || s.Hi > others[at].Hi {
			return false
		}
	}
	return len(spans) == len(others)
}

// agreed returns Agree of an entry, or -1 with ErrArg, or -2 with ErrZero.
func agreed(t *testing.T, h api.RaHouse, entry int) int {
	t.Helper()
	how, e := rate.Agree(h, entry)
	switch {
	case e == api.ErrArg && how == 0:
		return -1
	case e == api.ErrZero && how == 0:
		return -2
	case e != api.OK:
		t.Fatalf("Agree of %d = %d, %d", entry, how, e)
	}
	return how
}

// wrongIn returns how many entries are wrong, or more than there can be with ErrDown.
func wrongIn(t *testing.T, h api.RaHouse) int {
	t.Helper()
	out, e := rate.Wrong(h)
	if e == api.ErrDown && len(out) == 0 {
		return api.MaxRaEntries + 1
	}
	return len(must[[]int](t)(out, e))
}

// sent is an agent and pence, as Send tells them.
type sent struct{ agent, near int }

// sendBy returns by which agent to send how much, or -1 and -1 with ErrDown.
func sendBy(t *testing.T, h api.RaHouse, day, far int) sent {
	t.Helper()
	agent, near, e := rate.Send(h, day, far)
	switch {
	case e == api.ErrDown && agent == 0 && near == 0:
		return sent{-1, -1}
	case e != api.OK:
		t.Fatalf("Send of %d on %d = %d, %d, %d", far, day, agent, near, e)
	}
	return sent{agent, near}
}

// knownPays returns what the tests hold for what an agent pays.
func knownPays(a api.RaAgent, near, rate int) int {
	left := near - a.Fee
	if left <= 0 {
		return 0
	}
	pence, tenths := left*rate/10, left*rate%10
	if a.Round == api.RaUp && tenths > 0 || a.Round == api.RaNear && tenths >= 5 {
		pence++
	}
	return pence
}

// knownFar returns what an agent pays for an entry at the rate of its day.
func knownFar(h api.RaHouse, x api.RaEntry, rates []int) int {
	return knownPays(h.Agents[x.Agent], x.Near, rates[x.Day])
}

// isTruth reports whether rates of days are what the tests hold for a truth.
func isTruth(h api.RaHouse, rates []int) bool {
	for day, r := range rates {
		if r < h.Rates[day].Lo || r > h.Rates[day].Hi || day > 0 && max(r-rates[day-1], rates[day-1]-r) > h.Step {
			return false
		}
	}
	return !slices.ContainsFunc(h.Entries, func(x api.RaEntry) bool { return x.Far != untold && x.Far != knownFar(h, x, rates) })
}

// knownTruths returns the truths of a house, in their order: of all rates that days could have those that are a truth.
func knownTruths(h api.RaHouse) [][]int {
	many := 1
	for _, s := range h.Rates {
		many *= s.Hi - s.Lo + 1
	}
	var all [][]int
	for number := range many {
		rates := make([]int, h.Days)
		for day := h.Days - 1; day >= 0; day-- {
			s := h.Rates[day]
			rates[day] = s.Lo + number%(s.Hi-s.Lo+1)
			number /= s.Hi - s.Lo + 1
		}
		if isTruth(h, rates) {
			all = append(all, rates)
		}
	}
	return all
}

// knownSpan returns the least and the greatest number of something in some truths.
func knownSpan(known [][]int, of func(rates []int) int) api.Span {
	s := span(of(known[0]), of(known[0]))
	for _, rates := range known {
		s = span(min(s.Lo, of(rates)), max(s.Hi, of(rates)))
	}
	return s
}

// knownPaid returns what an agent pays for all its entries in a truth.
func knownPaid(h api.RaHouse, agent int, rates []int) int {
	pence := 0
	for _, x := range h.Entries {
		if x.Agent == agent {
			pence += knownFar(h, x, rates)
		}
	}
	return pence
}

// surelyPays reports whether an agent pays so much for some pence in all truths.
func surelyPays(h api.RaHouse, known [][]int, agent, day, near, far int) bool {
	return !slices.ContainsFunc(known, func(rates []int) bool { return knownPays(h.Agents[agent], near, rates[day]) < far })
}

// subsets returns all lists of numbers below n, the shorter ones first, then number by number.
func subsets(n int) [][]int {
	var all [][]int
	for set := range 1 << n {
		var l []int
		for at := range n {
			if set>>at&1 == 1 {
				l = append(l, at)
			}
		}
		all = append(all, l)
	}
	slices.SortFunc(all, func(a, b []int) int {
		if len(a) != len(b) {
			return len(a) - len(b)
		}
		return slices.Compare(a, b)
	})
	return all
}

// dice returns numbers that are the same in each run.
func dice(seed uint64) *rand.Rand { return rand.New(rand.NewPCG(seed, 8)) }

// oneOf returns one of some things.
func oneOf[T any](d *rand.Rand, things ...T) T { return things[d.IntN(len(things))] }

// isRate returns the number as a rate, which is not below 1, and not too great.
func isRate(n int) int { return min(max(n, 1), api.MaxRaRate) }

// anyAgents returns so many agents.
func anyAgents(d *rand.Rand, many int) []api.RaAgent {
	var l []api.RaAgent
	for at := range many {
		l = append(l, agent(string(rune('a'+at)), oneOf(d, 0, 0, 1, 2, 3, 5, 10, 20), d.IntN(3)))
	}
	return l
}

// anyEntry returns an entry of a house with agents that is told, and true at these rates.
func anyEntry(d *rand.Rand, h api.RaHouse, rates []int) api.RaEntry {
	x := entry(d.IntN(len(h.Agents)), d.IntN(h.Days), d.IntN(oneOf(d, 10, 30, api.MaxRaPence+1)), 0)
	x.Far = knownFar(h, x, rates)
	return x
}

// anyBooks returns rates of days, and a house with entries that are of these rates, or untold.
func anyBooks(d *rand.Rand) ([]int, api.RaHouse) {
	h := api.RaHouse{Days: 1 + d.IntN(api.MaxRaDays), Step: oneOf(d, 0, 1, 1, 2, 2, 3, 5, 20), Agents: anyAgents(d, oneOf(d, 0, 1, 2, 2, 3, 3))}
	rates := []int{1 + d.IntN(api.MaxRaRate)}
	for day := range h.Days {
		if day > 0 {
			rates = append(rates, isRate(rates[day-1]+d.IntN(2*h.Step+1)-h.Step))
		}
		wide := oneOf(d, 1, 2, 3, 5, 9)
		h.Rates = append(h.Rates, span(isRate(rates[day]-d.IntN(wide)), isRate(rates[day]+d.IntN(wide))))
	}
	if len(h.Agents) == 0 {
		return rates, h
	}
	for range d.IntN(api.MaxRaEntries + 1) {
		x := anyEntry(d, h, rates)
		if d.IntN(2) == 0 {
			x.Far = untold
		}
		h.Entries = append(h.Entries, x)
	}
	return rates, h
}

// anyHouse returns a house, some of whose entries can be false, or one of whose rates too far away.
func anyHouse(d *rand.Rand) api.RaHouse {
	_, h := anyBooks(d)
	for at := range h.Entries {
		x := &h.Entries[at]
		if x.Far != untold && d.IntN(4) == 0 {
			x.Far = min(max(x.Far+oneOf(d, -3, -1, 1, 1, 4), 0), api.MaxRaFar)
		}
	}
	if d.IntN(8) == 0 {
		lo := 1 + d.IntN(api.MaxRaRate)
		h.Rates[d.IntN(h.Days)] = span(lo, lo+d.IntN(api.MaxRaRate+1-lo))
	}
	return h
}

// eachHouse calls a test for many houses.
func eachHouse(t *testing.T, test func(t *testing.T, d *rand.Rand, h api.RaHouse)) {
	for seed := range uint64(4000) {
		d := dice(seed)
		h := anyHouse(d)
		if part, at, e := rate.Check(h); part != 0 || at != 0 || e != api.OK {
			t.Fatalf("Check of %+v = %d, %d, %d", h, part, at, e)
		}
		test(t, d, h)
		if t.Failed() {
			t.Fatalf("the house was %+v", h)
		}
	}
}

// eachTrueHouse calls a test for many houses that have a truth.
func eachTrueHouse(t *testing.T, test func(t *testing.T, d *rand.Rand, h api.RaHouse)) {
	eachHouse(t, func(t *testing.T, d *rand.Rand, h api.RaHouse) {
		if _, _, e := rate.First(h); e == api.OK {
			test(t, d, h)
		}
	})
}
