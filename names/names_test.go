package names_test

import (
	"strings"
	"testing"

	"escribano/api"
	"escribano/names"
)

// dog is a thing with a name, and with something else.
type dog struct {
	name string
	legs int
}

func TestError(t *testing.T) {
	rex, ben := dog{"rex", 4}, dog{"ben", 3}
	for i, c := range []struct {
		before []dog
		thing  dog
		e      api.Errno
	}{
		{nil, rex, api.OK},
		{[]dog{rex}, ben, api.OK},
		{[]dog{rex}, dog{"rexa", 4}, api.OK},
		{[]dog{rex, ben}, dog{"ben", 4}, api.ErrTwice},
		{[]dog{ben, rex}, dog{"ben", 4}, api.ErrTwice},
		{nil, dog{"", 4}, api.ErrForm},
		{[]dog{rex}, dog{"Rex", 4}, api.ErrForm},
		{[]dog{{"0", 4}}, dog{"0", 4}, api.ErrForm},
		{nil, dog{strings.Repeat("a", api.MaxName), 4}, api.OK},
		{nil, dog{strings.Repeat("a", api.MaxName+1), 4}, api.ErrForm},
	} {
		if e := names.Error(c.before, c.thing, func(d dog) string { return d.name }); e != c.e {
			t.Errorf("%d: Error = %d", i, e)
		}
	}
}

func TestErrorOf(t *testing.T) {
	for i, c := range []struct {
		before []string
		name   string
		e      api.Errno
	}{
		{nil, "rex", api.OK},
		{[]string{"ben", "rexa"}, "rex", api.OK},
		{[]string{"rex", "ben"}, "rex", api.ErrTwice},
		{[]string{"ben", "rex"}, "rex", api.ErrTwice},
		{nil, "", api.ErrForm},
		{[]string{"Rex"}, "Rex", api.ErrForm},
	} {
		if e := names.ErrorOf(c.before, c.name); e != c.e {
			t.Errorf("%d: ErrorOf = %d", i, e)
		}
	}
}
