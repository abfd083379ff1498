package sets_test

import (
	"slices"
	"testing"

	"escribano/sets"
)

func TestOfAndMembers(t *testing.T) {
	for _, c := range []struct {
		set     int
		members []int
	}{{0, nil}, {1, []int{0}}, {2, []int{1}}, {13, []int{0, 2, 3}}, {31, []int{0, 1, 2, 3, 4}}} {
		if set := sets.Of(c.members...); set != c.set {
			t.Errorf("Of %v = %d", c.members, set)
		}
		if l := sets.Members(c.set); !slices.Equal(l, c.members) {
			t.Errorf("Members of %d = %v", c.set, l)
		}
	}
	if set := sets.Of(3, 0, 3); set != 9 {
		t.Errorf("Of = %d", set)
	}
}

func TestAll(t *testing.T) {
	for many, want := range []int{0, 1, 3, 7, 15} {
		if set := sets.All(many); set != want {
			t.Errorf("All of %d = %d", many, set)
		}
	}
}

func TestWhere(t *testing.T) {
	for i, c := range []struct {
		many int
		so   []int
		want []int
	}{{0, []int{0}, nil}, {3, nil, nil}, {3, []int{2, 0}, []int{0, 2}}, {3, []int{0, 1, 2, 3}, []int{0, 1, 2}}, {-1, []int{0, -1}, nil}} {
		if l := sets.Where(c.many, func(i int) bool { return slices.Contains(c.so, i) }); !slices.Equal(l, c.want) {
			t.Errorf("%d: Where = %v", i, l)
		}
	}
}

func TestParts(t *testing.T) {
	for _, c := range []struct {
		set  int
		want [][]int
	}{
		{0, [][]int{{}}},
		{4, [][]int{{}, {2}}},
		{9, [][]int{{}, {0}, {3}, {0, 3}}},
		{14, [][]int{{}, {1}, {2}, {3}, {1, 2}, {1, 3}, {2, 3}, {1, 2, 3}}},
		{15, [][]int{{}, {0}, {1}, {2}, {3}, {0, 1}, {0, 2}, {0, 3}, {1, 2}, {1, 3}, {2, 3}, {0, 1, 2}, {0, 1, 3}, {0, 2, 3}, {1, 2, 3}, {0, 1, 2, 3}}},
	} {
		parts := sets.Parts(c.set)
		for range 2 { // they can be gone through again
			var got [][]int
			for part := range parts {
				got = append(got, slices.Clone(part))
			}
			if !slices.EqualFunc(got, c.want, slices.Equal[[]int]) {
				t.Errorf("Parts of %d = %v", c.set, got)
			}
		}
		for stop := range c.want {
			many := 0
			for range parts {
				if many++; many > stop {
					break
				}
			}
			if many != stop+1 {
				t.Errorf("Parts of %d = %d lists, with a break behind %d", c.set, many, stop+1)
			}
		}
	}
}

func TestFewestOf(t *testing.T) {
	for i, c := range []struct {
		set    int
		enough []int
		want   []int
		found  bool
	}{
		{0, []int{0}, nil, true},
		{0, []int{1}, nil, false},
		{10, nil, nil, false},
		{10, []int{1, 4, 5}, nil, false},
		{10, []int{0, 10}, nil, true},
		{10, []int{10}, []int{1, 3}, true},
		{10, []int{10, 1, 8}, []int{3}, true},
		{26, []int{24, 10, 26}, []int{1, 3}, true},
		{26, []int{24, 18, 3}, []int{1, 4}, true},
	} {
		l, found := sets.FewestOf(c.set, func(part int) bool { return slices.Contains(c.enough, part) })
		if !slices.Equal(l, c.want) || found != c.found {
			t.Errorf("%d: FewestOf = %v, %t", i, l, found)
		}
	}
}

func TestFewest(t *testing.T) {
	for i, c := range []struct {
		many   int
		enough []int
		want   []int
		found  bool
	}{
		{0, []int{0}, nil, true},
		{0, nil, nil, false},
		{3, nil, nil, false},
		{3, []int{0, 1, 2, 4, 7}, nil, true},
		{3, []int{7}, []int{0, 1, 2}, true},
		{3, []int{7, 6, 4, 2}, []int{1}, true},
		{4, []int{6, 9}, []int{0, 3}, true},
		{4, []int{7, 12}, []int{2, 3}, true},
		{4, []int{10, 12, 6}, []int{1, 2}, true},
		{2, []int{4}, nil, false},
	} {
		l, found := sets.Fewest(c.many, func(set int) bool { return slices.Contains(c.enough, set) })
		if !slices.Equal(l, c.want) || found != c.found {
			t.Errorf("%d: Fewest = %v, %t", i, l, found)
		}
	}
}
