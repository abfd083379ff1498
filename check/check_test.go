package check_test

import (
	"math"
	"testing"

	"escribano/api"
	"escribano/check"
)

func TestWithin(t *testing.T) {
	for _, numbers := range [][]int{nil, {2}, {4}, {2, 3, 4}, {3, 3}} {
		if !check.Within(2, 4, numbers...) {
			t.Errorf("%v are from 2 to 4", numbers)
		}
	}
	for _, numbers := range [][]int{{1}, {5}, {2, 5, 4}, {1, 3}, {math.MinInt}, {math.MaxInt}} {
		if check.Within(2, 4, numbers...) {
			t.Errorf("%v are not all from 2 to 4", numbers)
		}
	}
	if check.Within(0, -1, 0) {
		t.Error("0 is not from 0 to -1")
	}
}

func TestAscending(t *testing.T) {
	for _, numbers := range [][]int{nil, {}, {7}, {-3, 0}, {1, 2, 5}, {math.MinInt, 0, math.MaxInt}} {
		if !check.Ascending(numbers) {
			t.Errorf("%v are ascending", numbers)
		}
	}
	for _, numbers := range [][]int{{0, 0}, {1, 0}, {1, 2, 2}, {2, 1, 3}, {1, 3, 2}, {math.MaxInt, math.MinInt}} {
		if check.Ascending(numbers) {
			t.Errorf("%v are not ascending", numbers)
		}
	}
}

func TestSpan(t *testing.T) {
	for _, c := range []struct {
		s api.Span
		e api.Errno
	}{
		{api.Span{Lo: 2, Hi: 4}, api.OK}, {api.Span{Lo: 2, Hi: 2}, api.OK}, {api.Span{Lo: 4, Hi: 4}, api.OK}, {api.Span{Lo: 3, Hi: 4}, api.OK},
		{api.Span{Lo: 1, Hi: 4}, api.ErrRange}, {api.Span{Lo: 2, Hi: 5}, api.ErrRange}, {api.Span{Lo: 5, Hi: 2}, api.ErrRange}, {api.Span{Lo: 4, Hi: 1}, api.ErrRange},
		{api.Span{Lo: 3, Hi: 2}, api.ErrArg}, {api.Span{Lo: 4, Hi: 2}, api.ErrArg}, {api.Span{Lo: math.MinInt, Hi: math.MaxInt}, api.ErrRange}, {api.Span{Lo: math.MaxInt, Hi: math.MinInt}, api.ErrRange},
	} {
		if e := check.Span(2, 4, c.s); e != c.e {
			t.Errorf("Span of %v = %d", c.s, e)
		}
	}
}

// rising returns the error of a number that is not above the one before it, or too great.
func rising(before []int, n int) api.Errno {
	if len(before) > 0 && before[len(before)-1] >= n {
		return api.ErrArg
	}
	if n > 9 {
		return api.ErrRange
	}
	return api.OK
}

func TestFirst(t *testing.T) {
	for _, c := range []struct {
		things []int
		at     int
		e      api.Errno
	}{{nil, 0, api.OK}, {[]int{1, 2, 3}, 0, api.OK}, {[]int{1, 1, 20}, 1, api.ErrArg}, {[]int{1, 2, 20, 20}, 2, api.ErrRange}, {[]int{30, 20}, 0, api.ErrRange}} {
		if at, e := check.First(c.things, rising); at != c.at || e != c.e {
			t.Errorf("First of %v = %d, %d", c.things, at, e)
		}
	}
}

func TestList(t *testing.T) {
	for _, c := range []struct {
		things []int
		at     int
		e      api.Errno
	}{{nil, 0, api.OK}, {[]int{1, 2, 3}, 0, api.OK}, {[]int{1, 2, 2}, 2, api.ErrArg}, {[]int{1, 20, 2}, 1, api.ErrRange}, {[]int{1, 2, 3, 4}, 0, api.ErrLong}, {[]int{1, 1, 20, 4, 3}, 0, api.ErrLong}} {
		if at, e := check.List(3, c.things, rising); at != c.at || e != c.e {
			t.Errorf("List of %v = %d, %d", c.things, at, e)
		}
	}
	if at, e := check.List(0, []int(nil), rising); at != 0 || e != api.OK {
		t.Errorf("List of nothing = %d, %d", at, e)
	}
}

func TestArguments(t *testing.T) {
	for i, c := range []struct {
		arguments []check.Argument
		e         api.Errno
	}{
		{nil, api.OK},
		{[]check.Argument{check.Index(0, 1), check.Index(2, 3), check.Number(0, 0), check.Number(3, 3)}, api.OK},
		{[]check.Argument{check.Index(0, 0)}, api.ErrNone},
		{[]check.Argument{check.Index(3, 3)}, api.ErrNone},
		{[]check.Argument{check.Index(-1, 3)}, api.ErrNone},
		{[]check.Argument{check.Index(math.MaxInt, 3)}, api.ErrNone},
		{[]check.Argument{check.Number(4, 3)}, api.ErrRange},
		{[]check.Argument{check.Number(-1, 3)}, api.ErrRange},
		{[]check.Argument{check.Number(math.MinInt, 3)}, api.ErrRange},
		{[]check.Argument{check.Index(2, 3), check.Number(4, 3), check.Index(3, 3)}, api.ErrRange},
		{[]check.Argument{check.Number(2, 3), check.Index(3, 3), check.Number(4, 3)}, api.ErrNone},
	} {
		if e := check.Arguments(c.arguments...); e != c.e {
			t.Errorf("%d: Arguments = %d", i, e)
		}
	}
}
