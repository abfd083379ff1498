package rate

import (
	"escribano/api"
	"escribano/check"
	"escribano/names"
)

// open returns the house, and its error: that of Check, then that of the first argument with one.
func open(h api.RaHouse, arguments ...check.Argument) (house, api.Errno) {
	if _, _, e := Check(h); e != api.OK {
		return house{}, e
	}
	if e := check.Arguments(arguments...); e != api.OK {
		return house{}, e
	}
	return look(h), api.OK
}

// rateError returns the error of the rate of a day.
func rateError(_ []api.Span, s api.Span) api.Errno { return check.Span(1, api.MaxRaRate, s) }

// agentError returns the error of an agent.
func agentError(before []api.RaAgent, a api.RaAgent) api.Errno {
	if e := names.Error(before, a, func(a api.RaAgent) string { return a.Name }); e != api.OK {
		return e
	}
	if !check.Within(0, api.MaxRaFee, a.Fee) || !check.Within(down, nearest, a.Round) {
		return api.ErrRange
	}
	return api.OK
}

// entryError returns the error of an entry.
func (k house) entryError(_ []api.RaEntry, x api.RaEntry) api.Errno {
	if !check.Within(0, len(k.Agents)-1, x.Agent) || !check.Within(0, k.Days-1, x.Day) {
		return api.ErrNone
	}
	if !check.Within(0, api.MaxRaPence, x.Near) || !check.Within(api.RaUntold, api.MaxRaFar, x.Far) {
		return api.ErrRange
	}
	return api.OK
}
