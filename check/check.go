// Package check has what all layers need to find the errors of what they are given.
package check

import "escribano/api"

// Within reports whether all of some numbers are from lo to hi.
func Within(lo, hi int, numbers ...int) bool {
	for _, n := range numbers {
		if n < lo || n > hi {
			return false
		}
	}
	return true
}

// Ascending reports whether each of some numbers is above the one before it.
func Ascending(numbers []int) bool {
	for at := 1; at < len(numbers); at++ {
		if numbers[at] <= numbers[at-1] {
			return false
		}
	}
	return true
}

// Span returns the error of a span, each end of which has to be from lo to hi, and which must not be empty.
func Span(lo, hi int, s api.Span) api.Errno {
	if !Within(lo, hi, s.Lo, s.Hi) {
		return api.ErrRange
	}
	if s.Lo > s.Hi {
		return api.ErrArg
	}
	return api.OK
}

// First returns the first of some things with an error, and this error; each one is examined with those before it.
func First[T any](things []T, errorOf func(before []T, thing T) api.Errno) (int, api.Errno) {
	for at, thing := range things {
		if e := errorOf(things[:at], thing); e != api.OK {
			return at, e
		}
	}
	return 0, api.OK
}

// List is First, with the error that there are more things than so many ahead of it.
func List[T any](most int, things []T, errorOf func(before []T, thing T) api.Errno) (int, api.Errno) {
	if len(things) > most {
		return 0, api.ErrLong
	}
	return First(things, errorOf)
}

// Argument is a number that a function is given, the greatest one that it can be, and its error if it is not from 0 to this one.
type Argument struct {
	number, most int
	e            api.Errno
}

// Index is an argument that has to be an index of so many things.
func Index(number, many int) Argument { return Argument{number, many - 1, api.ErrNone} }

// Number is an argument that has to be from 0 to some number.
func Number(number, most int) Argument { return Argument{number, most, api.ErrRange} }

// Arguments returns the error of the first argument with one.
func Arguments(arguments ...Argument) api.Errno {
	_, e := First(arguments, func(_ []Argument, a Argument) api.Errno {
		if !Within(0, a.most, a.number) {
			return a.e
		}
		return api.OK
	})
	return e
}
