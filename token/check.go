package token

import (
	"escribano/api"
	"escribano/check"
	"escribano/names"
)

// open returns the drawer, and its error.
func open(d api.ToDrawer) (drawer, api.Errno) {
	if _, _, e := Check(d); e != api.OK {
		return drawer{}, e
	}
	return look(d), api.OK
}

// openCards is open, with the error that one of some cards is no index behind it.
func openCards(d api.ToDrawer, cards ...int) (drawer, api.Errno) {
	k, e := open(d)
	if e == api.OK && !check.Within(0, len(k.Cards)-1, cards...) {
		return drawer{}, api.ErrNone
	}
	return k, e
}

// openHalf is open, with the error that a half is no index behind it.
func openHalf(d api.ToDrawer, half int) (drawer, api.Errno) {
	k, e := open(d)
	if e == api.OK && !k.isHalf(half) {
		return drawer{}, api.ErrNone
	}
	return k, e
}

// isHalf reports whether there is such a half.
func (k drawer) isHalf(half int) bool { return check.Within(0, len(k.Halves)-1, half) }

// cardError returns the error of a card.
func (k drawer) cardError(before []api.ToCard, c api.ToCard) api.Errno {
	if e := names.Error(before, c, func(c api.ToCard) string { return c.Name }); e != api.OK {
		return e
	}
	return k.wholeError(c.Edge)
}

// halfError returns the error of a half.
func (k drawer) halfError(before []api.ToHalf, h api.ToHalf) api.Errno {
	if e := names.Error(before, h, func(h api.ToHalf) string { return h.Name }); e != api.OK {
		return e
	}
	return edgeError(h.Edge, k.Least, k.Steps, api.ToLost)
}

// wholeError returns the error of the edge of a card.
func (k drawer) wholeError(edge []int) api.Errno { return edgeError(edge, k.Steps, k.Steps, 0) }

// edgeError returns the error of an edge that has from least to most heights, none below the lowest one.
func edgeError(edge []int, least, most, lowest int) api.Errno {
	if !check.Within(least, most, len(edge)) {
		return api.ErrLong
	}
	if !check.Within(lowest, api.MaxToHeight, edge...) {
		return api.ErrRange
	}
	return api.OK
}
