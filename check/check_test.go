package check_test

import (
	"math"
	"testing"

	"escribano/api"
	"escribano/check"
)

func TestWithin(t *testing.T) {
	for _, numbers := range [][]int{nil, {2}, {4}, {2, 3, 4}, {3, 3}} {
		if !check.Within(2, 4, numbers...) {
			t.Errorf("%v are from 2 to 4", numbers)
		}
	}
	for _, numbers := range [][]int{{1}, {5}, {2, 5, 4}, {1, 3}, {math.MinInt}, {math.MaxInt}} {
		if check.Within(2, 4, numbers...) {
			t.Errorf("%v are not all from 2 to 4", numbers)
		}
	}
	if check.Within(0, -1, 0) {
		t.Error("0 is not from 0 to -1")
	}
}

func TestFirst(t *testing.T) {
	rising := func(before []int, n int) api.Errno {
		if len(before) > 0 && before[len(before)-1] >= n {
			return api.ErrArg
		}
		if n > 9 {
			return api.ErrRange
		}
		return api.OK
	}
	for _, c := range []struct {
		things []int
		at     int
		e      api.Errno
	}{{nil, 0, api.OK}, {[]int{1, 2, 3}, 0, api.OK}, {[]int{1, 1, 20}, 1, api.ErrArg}, {[]int{1, 2, 20, 20}, 2, api.ErrRange}, {[]int{30, 20}, 0, api.ErrRange}} {
		if at, e := check.First(c.things, rising); at != c.at || e != c.e {
			t.Errorf("First of %v = %d, %d", c.things, at, e)
		}
	}
}
