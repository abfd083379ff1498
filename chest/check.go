package chest

import (
	"escribano/api"
	"escribano/check"
	"escribano/sets"
)

// indices are indices of things of which there are so many.
type indices struct {
	many int
	list []int
}

// somebody, someFact, someWords and someCopies are indices of a chest.
func somebody(c api.ChChest, person int) indices { return indices{len(c.People), []int{person}} }

func someFact(c api.ChChest, fact int) indices { return indices{c.Facts, []int{fact}} }

func someWords(c api.ChChest, words []int) indices { return indices{c.Words, words} }

func someCopies(c api.ChChest, copies []int) indices { return indices{len(c.Copies), copies} }

// areSome reports whether there is something with each of the indices.
func (i indices) areSome() bool { return check.Within(0, i.many-1, i.list...) }

// open returns the chest, and its error: that of Check, then that there is nothing with one of some indices, then that these are not ascending.
func open(c api.ChChest, asked ...indices) (chest, api.Errno) {
	if _, _, e := Check(c); e != api.OK {
		return chest{}, e
	}
	for _, i := range asked {
		if !i.areSome() {
			return chest{}, api.ErrNone
		}
	}
	for _, i := range asked {
		if !check.Ascending(i.list) {
			return chest{}, api.ErrArg
		}
	}
	return look(c), api.OK
}

// areBits reports whether a set has only indices below many.
func areBits(many, set int) bool { return check.Within(0, sets.All(many), set) }

// copyError returns the error of a copy.
func (k chest) copyError(before []api.ChCopy, c api.ChCopy) api.Errno {
	if !check.Within(1, k.Last, c.Number) {
		return api.ErrRange
	}
	if len(before) > 0 && c.Number <= before[len(before)-1].Number {
		return api.ErrArg
	}
	if !areBits(k.Words, c.Words) || !areBits(k.Facts, c.Facts) || !areBits(len(k.People), c.May) {
		return api.ErrNone
	}
	return api.OK
}

// ruleError returns the error of a rule.
func (k chest) ruleError(_ []api.ChRule, r api.ChRule) api.Errno {
	if !areBits(k.Facts, r.If) || !check.Within(0, k.Facts-1, r.Then) {
		return api.ErrNone
	}
	if r.If == 0 {
		return api.ErrArg
	}
	return api.OK
}
