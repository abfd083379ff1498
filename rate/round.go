package rate

import "escribano/api"

// The ways to round, with api's numbers.
const (
	down = iota
	up
	nearest
)

// rounding is a way to round parts of a penny to pence.
type rounding struct {
	round func(parts int) int
}

// roundings returns all ways to round.
func roundings() []rounding {
	return []rounding{
		down:    {func(parts int) int { return parts / api.RaTen }},
		up:      {func(parts int) int { return (parts + api.RaTen - 1) / api.RaTen }},
		nearest: {func(parts int) int { return (parts + api.RaTen/2) / api.RaTen }},
	}
}

// entry is an entry that is looked at, with its agent, and how this one rounds.
type entry struct {
	api.RaEntry
	api.RaAgent
	rounding
}

// entry returns an entry that is looked at.
func (k house) entry(x api.RaEntry) entry {
	a := k.Agents[x.Agent]
	return entry{x, a, roundings()[a.Round]}
}

// pays returns how many pence the agent pays for the entry at a rate.
func (x entry) pays(rate int) int { return x.round(max(x.Near-x.Fee, 0) * rate) }
