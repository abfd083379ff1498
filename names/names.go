// Package names has what all layers need to find the errors of things with names.
package names

import (
	"slices"

	"escribano/api"
	"escribano/ear"
)

// Error returns the error of the name of a thing, which those before it must not have.
func Error[T any](before []T, thing T, nameOf func(thing T) string) api.Errno {
	name := nameOf(thing)
	if !ear.Name(name) {
		return api.ErrForm
	}
	if slices.ContainsFunc(before, func(o T) bool { return nameOf(o) == name }) {
		return api.ErrTwice
	}
	return api.OK
}

// ErrorOf is Error for a name that is all that there is of a thing.
func ErrorOf(before []string, name string) api.Errno {
	return Error(before, name, func(name string) string { return name })
}
