package person

import (
	"escribano/api"
	"escribano/check"
)

// open returns the town, and its error, or that one of some mentions is no index.
func open(t api.PeTown, mentions ...int) (town, api.Errno) {
	if _, _, e := Check(t); e != api.OK {
		return town{}, e
	}
	if !check.Within(0, len(t.Mentions)-1, mentions...) {
		return town{}, api.ErrNone
	}
	return look(t), api.OK
}

// openPair is open for two mentions, with the error that they are the same behind those of open.
func openPair(t api.PeTown, a, b int) (town, api.Errno) {
	k, e := open(t, a, b)
	if e == api.OK && a == b {
		return town{}, api.ErrArg
	}
	return k, e
}

// mentionError returns the error of a mention whose index is the number of those before it.
func (k town) mentionError(before []api.PeMention, m api.PeMention) api.Errno {
	if !check.Within(0, len(k.Ear.Spellings)-1, m.Spelling) ||
		!check.Within(api.PeNone, k.Villages-1, m.Village) ||
		!check.Within(api.PeNone, len(k.Mentions)-1, m.Parent) {
		return api.ErrNone
	}
	if e := check.Span(0, api.MaxPeYear, m.Born); e != api.OK {
		return e
	}
	if m.Parent == len(before) {
		return api.ErrArg
	}
	return api.OK
}

// tieError returns the error of a tie.
func (k town) tieError(_ []api.PeTie, tie api.PeTie) api.Errno {
	if !check.Within(0, len(k.Mentions)-1, tie.A, tie.B) {
		return api.ErrNone
	}
	if tie.A == tie.B {
		return api.ErrArg
	}
	return api.OK
}
