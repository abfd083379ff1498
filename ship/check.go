package ship

import (
	"slices"

	"escribano/api"
	"escribano/check"
	"escribano/names"
	"escribano/sea"
)

// harbour is a harbour that is looked at.
type harbour struct{ sea.Harbour }

// open returns the harbour, and its error.
func open(h api.ShHarbour) (harbour, api.Errno) {
	if _, _, e := Check(h); e != api.OK {
		return harbour{}, e
	}
	return harbour{sea.Look(h)}, api.OK
}

// openLetters is open, with the error that one of some letters is no index behind it.
func openLetters(h api.ShHarbour, letters ...int) (harbour, api.Errno) {
	k, e := open(h)
	if e == api.OK && !check.Within(0, len(k.Letters)-1, letters...) {
		return harbour{}, api.ErrNone
	}
	return k, e
}

// openPort is open, with the error that a port is none behind it.
func openPort(h api.ShHarbour, port int) (harbour, api.Errno) {
	k, e := open(h)
	if e == api.OK && !k.isPort(port) {
		return harbour{}, api.ErrNone
	}
	return k, e
}

// isPort reports whether there is such a port.
func (k harbour) isPort(port int) bool { return sea.IsPort(k.ShHarbour, port) }

// shipError returns the error of a ship.
func (k harbour) shipError(before []api.ShShip, s api.ShShip) api.Errno {
	if e := names.Error(before, s, func(s api.ShShip) string { return s.Name }); e != api.OK {
		return e
	}
	if !check.Within(0, api.MaxShSails, s.Sails) {
		return api.ErrRange
	}
	if e := check.Span(0, api.MaxShLate, s.Late); e != api.OK {
		return e
	}
	_, e := check.List(api.MaxShCalls, s.Calls, k.callError)
	return e
}

// callError returns the error of a call.
func (k harbour) callError(before []api.ShCall, c api.ShCall) api.Errno {
	if !k.isPort(c.Port) {
		return api.ErrNone
	}
	if slices.ContainsFunc(before, func(o api.ShCall) bool { return o.Port == c.Port }) {
		return api.ErrTwice
	}
	if !check.Within(1, api.MaxShAfter, c.After) {
		return api.ErrRange
	}
	if last := len(before) - 1; last >= 0 && c.After <= before[last].After {
		return api.ErrArg
	}
	return api.OK
}

// letterError returns the error of a letter.
func (k harbour) letterError(_ []api.ShLetter, l api.ShLetter) api.Errno {
	if !k.isPort(l.Port) {
		return api.ErrNone
	}
	if !check.Within(0, api.MaxShSails, l.Day) {
		return api.ErrRange
	}
	if !check.Within(api.ShNone, len(k.Ships)-1, l.Ship) {
		return api.ErrNone
	}
	if l.Ship != api.ShNone && !sea.Takes(k.Ships[l.Ship], l.Port, l.Day) {
		return api.ErrArg
	}
	return api.OK
}

// reportError returns the error of a report.
func (k harbour) reportError(_ []api.ShReport, r api.ShReport) api.Errno {
	if !check.Within(api.ShSeen, api.ShLack, r.Kind) {
		return api.ErrRange
	}
	many, ofLetter := len(k.Ships), sea.IsOfLetter(r)
	if ofLetter {
		many = len(k.Letters)
	}
	if !check.Within(0, many-1, r.Of) || !k.isPort(r.Port) {
		return api.ErrNone
	}
	if ofLetter && r.Port != 0 {
		return api.ErrArg
	}
	if !sea.IsDay(r.Day) {
		return api.ErrRange
	}
	return api.OK
}
