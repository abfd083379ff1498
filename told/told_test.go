package told_test

import (
	"testing"

	"escribano/api"
	"escribano/told"
)

func TestTally(t *testing.T) {
	for i, c := range []struct {
		so  []bool
		how int
		e   api.Errno
	}{
		{nil, 0, api.ErrZero},
		{[]bool{true}, api.Must, api.OK},
		{[]bool{false}, api.Never, api.OK},
		{[]bool{true, true, true}, api.Must, api.OK},
		{[]bool{false, false}, api.Never, api.OK},
		{[]bool{true, false}, api.May, api.OK},
		{[]bool{false, false, true}, api.May, api.OK},
		{[]bool{true, true, false, true}, api.May, api.OK},
	} {
		var tally told.Tally
		for _, so := range c.so {
			tally.Add(so)
		}
		if how, e := tally.How(); how != c.how || e != c.e {
			t.Errorf("%d: How = %d, %d", i, how, e)
		}
	}
}
