package told_test

import (
	"slices"
	"testing"

	"escribano/api"
	"escribano/told"
)

func TestTally(t *testing.T) {
	for i, c := range []struct {
		so  []bool
		how int
		e   api.Errno
	}{
		{nil, 0, api.ErrZero},
		{[]bool{true}, api.Must, api.OK},
		{[]bool{false}, api.Never, api.OK},
		{[]bool{true, true, true}, api.Must, api.OK},
		{[]bool{false, false}, api.Never, api.OK},
		{[]bool{true, false}, api.May, api.OK},
		{[]bool{false, false, true}, api.May, api.OK},
		{[]bool{true, true, false, true}, api.May, api.OK},
	} {
		var tally told.Tally
		for _, so := range c.so {
			tally.Add(so)
		}
		if how, e := tally.How(); how != c.how || e != c.e {
			t.Errorf("%d: How = %d, %d", i, how, e)
		}
		if how, e := told.How(slices.Values(c.so), func(so bool) bool { return so }); how != c.how || e != c.e {
			t.Errorf("%d: How of all = %d, %d", i, how, e)
		}
	}
}

func TestOverall(t *testing.T) {
	for i, c := range []struct {
		truths []string
		want   api.Span
		e      api.Errno
	}{
		{nil, api.Span{}, api.ErrZero},
		{[]string{""}, api.Span{Lo: 0, Hi: 10}, api.OK},
		{[]string{"abc"}, api.Span{Lo: 3, Hi: 7}, api.OK},
		{[]string{"abc", "ab"}, api.Span{Lo: 2, Hi: 8}, api.OK},
		{[]string{"a", "abcd", "ab"}, api.Span{Lo: 1, Hi: 9}, api.OK},
		{[]string{"abcd", "abc", "abcd"}, api.Span{Lo: 3, Hi: 7}, api.OK},
	} {
		s, e := told.Overall(slices.Values(c.truths), func(s string) api.Span { return api.Span{Lo: len(s), Hi: 10 - len(s)} })
		if s != c.want || e != c.e {
			t.Errorf("%d: Overall = %v, %d", i, s, e)
		}
	}
	// spans that are all above 0, or all below
	for _, want := range []api.Span{{Lo: 5, Hi: 9}, {Lo: -9, Hi: -5}} {
		ends := slices.Values([]int{want.Hi, want.Lo})
		if s, e := told.Overall(ends, func(n int) api.Span { return api.Span{Lo: n, Hi: n} }); s != want || e != api.OK {
			t.Errorf("Overall = %v, %d, not %v", s, e, want)
		}
	}
}

func TestNumber(t *testing.T) {
	for i, c := range []struct {
		truths []string
		want   api.Span
		e      api.Errno
	}{
		{nil, api.Span{}, api.ErrZero},
		{[]string{""}, api.Span{}, api.OK},
		{[]string{"abc"}, api.Span{Lo: 3, Hi: 3}, api.OK},
		{[]string{"abc", "ab"}, api.Span{Lo: 2, Hi: 3}, api.OK},
		{[]string{"ab", "abcd", "a", "ab"}, api.Span{Lo: 1, Hi: 4}, api.OK},
	} {
		if s, e := told.Number(slices.Values(c.truths), func(s string) int { return len(s) }); s != c.want || e != c.e {
			t.Errorf("%d: Number = %v, %d", i, s, e)
		}
	}
}

func TestFewest(t *testing.T) {
	for i, c := range []struct{ truths, want []string }{
		{nil, nil},
		{[]string{"ab"}, []string{"ab"}},
		{[]string{"ab", "c", "de", "f"}, []string{"c", "f"}},
		{[]string{"c", "ab", "", "f", ""}, []string{"", ""}},
		{[]string{"b", "a"}, []string{"b", "a"}},
	} {
		if l := told.Fewest(slices.Values(c.truths), func(s string) int { return len(s) }); !slices.Equal(l, c.want) {
			t.Errorf("%d: Fewest = %q", i, l)
		}
	}
}
