package told_test

import (
	"slices"
	"testing"

	"escribano/api"
	"escribano/told"
)

func TestTally(t *testing.T) {
	for i, c := range []struct {
		so  []bool
		how int
		e   api.Errno
	}{
		{nil, 0, api.ErrZero},
		{[]bool{true}, api.Must, api.OK},
		{[]bool{false}, api.Never, api.OK},
		{[]bool{true, true, true}, api.Must, api.OK},
		{[]bool{false, false}, api.Never, api.OK},
		{[]bool{true, false}, api.May, api.OK},
		{[]bool{false, false, true}, api.May, api.OK},
		{[]bool{true, true, false, true}, api.May, api.OK},
	} {
		var tally told.Tally
		for _, so := range c.so {
			tally.Add(so)
		}
		if how, e := tally.How(); how != c.how || e != c.e {
			t.Errorf("%d: How = %d, %d", i, how, e)
		}
		if how, e := told.How(slices.Values(c.so), func(so bool) bool { return so }); how != c.how || e != c.e {
			t.Errorf("%d: How of all = %d, %d", i, how, e)
		}
	}
}

func TestFewest(t *testing.T) {
	for i, c := range []struct{ truths, want []string }{
		{nil, nil},
		{[]string{"ab"}, []string{"ab"}},
		{[]string{"ab", "c", "de", "f"}, []string{"c", "f"}},
		{[]string{"c", "ab", "", "f", ""}, []string{"", ""}},
		{[]string{"b", "a"}, []string{"b", "a"}},
	} {
		if l := told.Fewest(slices.Values(c.truths), func(s string) int { return len(s) }); !slices.Equal(l, c.want) {
			t.Errorf("%d: Fewest = %q", i, l)
		}
	}
}
