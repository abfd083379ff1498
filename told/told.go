// Package told has what all layers need to tell what is so over truths.
package told

import (
	"iter"

	"escribano/api"
)

// Tally counts truths, and those of them in which something is so.
type Tally struct{ truths, so int }

// Add counts a truth in which something is so, or is not.
func (t *Tally) Add(so bool) {
	t.truths++
	if so {
		t.so++
	}
}

// How returns whether something is so in all truths, in some or in none, or ErrZero if there is no truth.
func (t Tally) How() (int, api.Errno) {
	switch {
	case t.truths == 0:
		return 0, api.ErrZero
	case t.so == 0:
		return api.Never, api.OK
	case t.so == t.truths:
		return api.Must, api.OK
	}
	return api.May, api.OK
}

// How returns whether something is so in all of some truths, in some or in none, or ErrZero if there is no truth.
func How[T any](truths iter.Seq[T], isSo func(truth T) bool) (int, api.Errno) {
	var tally Tally
	for t := range truths {
		tally.Add(isSo(t))
	}
	return tally.How()
}

// Overall returns the span from the least to the greatest number that spans of truths have, or ErrZero if there is no truth.
func Overall[T any](truths iter.Seq[T], of func(truth T) api.Span) (api.Span, api.Errno) {
	all, e := api.Span{}, api.ErrZero
	for t := range truths {
		s := of(t)
		if e != api.OK {
			all, e = s, api.OK
		}
		all = api.Span{Lo: min(all.Lo, s.Lo), Hi: max(all.Hi, s.Hi)}
	}
	return all, e
}

// Number returns the span from the least to the greatest number that truths have, or ErrZero if there is no truth.
func Number[T any](truths iter.Seq[T], of func(truth T) int) (api.Span, api.Errno) {
	return Overall(truths, func(t T) api.Span {
		n := of(t)
		return api.Span{Lo: n, Hi: n}
	})
}

// Fewest returns those of some truths that have the fewest of something, in their order.
func Fewest[T any](truths iter.Seq[T], many func(truth T) int) []T {
	var least []T
	fewest := 0
	for t := range truths {
		n := many(t)
		if len(least) == 0 || n < fewest {
			least, fewest = nil, n
		}
		if n == fewest {
			least = append(least, t)
		}
	}
	return least
}
