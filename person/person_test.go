package person_test

import (
	"math"
	"slices"
	"testing"

	"escribano/api"
	"escribano/person"
)

// wrong is one thing that is wrong with a town: what Check returns of it.
type wrong struct {
	name     string
	change   func(t *api.PeTown)
	part, at int
	e        api.Errno
}

// mention is a change of the mention 2, and tie one of the tie 1.
func mention(change func(m *api.PeMention)) func(t *api.PeTown) {
	return func(t *api.PeTown) { change(&t.Mentions[2]) }
}

func tie(change func(tie *api.PeTie)) func(t *api.PeTown) {
	return func(t *api.PeTown) { change(&t.Ties[1]) }
}

// wrongs returns what can be wrong, in the order of the errors.
func wrongs() []wrong {
	return []wrong{
		{"sounds", func(t *api.PeTown) { t.Ear.Sounds = 0 }, 1, 0, api.ErrRange},
		{"villages", func(t *api.PeTown) { t.Villages = 0 }, 2, 0, api.ErrRange},
		{"too many mentions", func(t *api.PeTown) { t.Mentions = append(t.Mentions, make([]api.PeMention, 2)...) }, 3, 0, api.ErrLong},
		{"spelling", mention(func(m *api.PeMention) { m.Spelling = 4 }), 3, 2, api.ErrNone},
		{"village", mention(func(m *api.PeMention) { m.Village = 2 }), 3, 2, api.ErrNone},
		{"parent", mention(func(m *api.PeMention) { m.Parent = 4 }), 3, 2, api.ErrNone},
		{"first year", mention(func(m *api.PeMention) { m.Born.Lo = -1 }), 3, 2, api.ErrRange},
		{"last year", mention(func(m *api.PeMention) { m.Born.Hi = 200 }), 3, 2, api.ErrRange},
		{"years", mention(func(m *api.PeMention) { m.Born = api.Span{Lo: 101, Hi: 100} }), 3, 2, api.ErrArg},
		{"own parent", mention(func(m *api.PeMention) { m.Parent = 2 }), 3, 2, api.ErrArg},
		{"too many ties", func(t *api.PeTown) { t.Ties = append(t.Ties, make([]api.PeTie, 3)...) }, 4, 0, api.ErrLong},
		{"tie", tie(func(tie *api.PeTie) { tie.A, tie.B = 4, 4 }), 4, 1, api.ErrNone},
		{"one mention", tie(func(tie *api.PeTie) { tie.A = tie.B }), 4, 1, api.ErrArg},
	}
}

// wrongTown is the town that is changed.
func wrongTown() api.PeTown { return example(same(0, 1), apart(0, 3)) }

// P3.1: each error
func TestCheckEach(t *testing.T) {
	more := []wrong{
		{"nothing", func(t *api.PeTown) {}, 0, 0, api.OK},
		{"no alphabets", func(t *api.PeTown) { t.Ear.Alphabets = nil }, 1, 0, api.ErrLong},
		{"a later part of the book", func(t *api.PeTown) { t.Ear.Spellings[3].Text = "k\xff" }, 1, 0, api.ErrForm},
		{"an alphabet that is none", func(t *api.PeTown) { t.Ear.Spellings[2].Alphabet = 3 }, 1, 0, api.ErrNone},
		{"a letter for nothing", func(t *api.PeTown) { t.Ear.Alphabets[1].Letters[1] = api.EaLetter{Letter: 'y'} }, 1, 0, api.ErrArg},
		{"an alphabet twice", func(t *api.PeTown) { t.Ear.Alphabets[1].Name = "roman" }, 1, 0, api.ErrTwice},
		{"villages below 0", func(t *api.PeTown) { t.Villages = math.MinInt }, 2, 0, api.ErrRange},
		{"five villages", func(t *api.PeTown) { t.Villages = 5 }, 2, 0, api.ErrRange},
		{"many villages", func(t *api.PeTown) { t.Villages = math.MaxInt }, 2, 0, api.ErrRange},
		{"four villages", func(t *api.PeTown) { t.Villages = 4; t.Mentions[2].Village = 3 }, 0, 0, api.OK},
		{"one village", func(t *api.PeTown) { t.Villages = 1 }, 3, 2, api.ErrNone},
		{"no mentions", func(t *api.PeTown) { t.Mentions, t.Ties = nil, nil }, 0, 0, api.OK},
		{"ties of no mentions", func(t *api.PeTown) { t.Mentions = nil }, 4, 0, api.ErrNone},
		{"five mentions", func(t *api.PeTown) { t.Mentions = append(t.Mentions, t.Mentions[0]) }, 0, 0, api.OK},
		{"six mentions", func(t *api.PeTown) { t.Mentions = append(t.Mentions, t.Mentions[0], t.Mentions[0]) }, 3, 0, api.ErrLong},
		{"no spellings", func(t *api.PeTown) { t.Ear.Spellings = nil }, 3, 0, api.ErrNone},
		{"no spelling", mention(func(m *api.PeMention) { m.Spelling = -1 }), 3, 2, api.ErrNone},
		{"far spelling", mention(func(m *api.PeMention) { m.Spelling = math.MaxInt }), 3, 2, api.ErrNone},
		{"village below none", mention(func(m *api.PeMention) { m.Village = -2 }), 3, 2, api.ErrNone},
		{"far village", mention(func(m *api.PeMention) { m.Village = math.MaxInt }), 3, 2, api.ErrNone},
		{"no village", mention(func(m *api.PeMention) { m.Village = none }), 0, 0, api.OK},
		{"parent below none", mention(func(m *api.PeMention) { m.Parent = -2 }), 3, 2, api.ErrNone},
		{"far parent", mention(func(m *api.PeMention) { m.Parent = math.MinInt }), 3, 2, api.ErrNone},
		{"later parent", mention(func(m *api.PeMention) { m.Parent = 3 }), 0, 0, api.OK},
		{"parents of each other", func(t *api.PeTown) { t.Mentions[0].Parent = 3 }, 0, 0, api.OK},
		{"first year too late", mention(func(m *api.PeMention) { m.Born = api.Span{Lo: 200, Hi: 199} }), 3, 2, api.ErrRange},
		{"last year below 0", mention(func(m *api.PeMention) { m.Born = api.Span{Lo: 0, Hi: -1} }), 3, 2, api.ErrRange},
		{"far years", mention(func(m *api.PeMention) { m.Born = api.Span{Lo: math.MinInt, Hi: math.MaxInt} }), 3, 2, api.ErrRange},
		{"all years", mention(func(m *api.PeMention) { m.Born = api.Span{Lo: 0, Hi: 199} }), 0, 0, api.OK},
		{"one year", mention(func(m *api.PeMention) { m.Born = api.Span{Lo: 199, Hi: 199} }), 0, 0, api.OK},
		{"no ties", func(t *api.PeTown) { t.Ties = nil }, 0, 0, api.OK},
		{"four ties", func(t *api.PeTown) { t.Ties = append(t.Ties, apart(3, 2), apart(3, 2)) }, 0, 0, api.OK},
		{"no first mention", tie(func(tie *api.PeTie) { tie.A = -1 }), 4, 1, api.ErrNone},
		{"no second mention", tie(func(tie *api.PeTie) { tie.B = 4 }), 4, 1, api.ErrNone},
		{"far mentions", tie(func(tie *api.PeTie) { tie.A, tie.B = math.MaxInt, math.MinInt }), 4, 1, api.ErrNone},
	}
	for _, w := range append(wrongs(), more...) {
		town := wrongTown()
		w.change(&town)
		part, at, e := person.Check(town)
		if part != w.part || at != w.at || e != w.e {
			t.Errorf("%s: Check = %d, %d, %d", w.name, part, at, e)
		}
		if e != api.OK {
			want := [7]api.Errno{e, e, e, e, e, e, e}
			if got := errors(town, 9, 9, 9, born(9, 9, -1, 300, 9)); got != want {
				t.Errorf("%s: errors %v", w.name, got)
			}
		}
	}
}

// P3.1, P1: of two errors the one that is named first, and of two mentions or ties with an error the first one
func TestCheckFirst(t *testing.T) {
	all := wrongs()
	for i, w := range all {
		for _, x := range all[i+1:] {
			town := wrongTown()
			x.change(&town)
			w.change(&town)
			if part, at, e := person.Check(town); part != w.part || at != w.at || e != w.e {
				t.Errorf("%s, and %s: Check = %d, %d, %d", w.name, x.name, part, at, e)
			}
		}
	}
	for _, c := range []wrong{
		{"mentions", func(t *api.PeTown) { t.Mentions[1].Parent, t.Mentions[2].Spelling = 1, 9 }, 3, 1, api.ErrArg},
		{"years and spelling", func(t *api.PeTown) { t.Mentions[0].Born.Hi, t.Mentions[3].Spelling = 200, 9 }, 3, 0, api.ErrRange},
		{"ties", func(t *api.PeTown) { t.Ties[0].A, t.Ties[1].A = 1, 9 }, 4, 0, api.ErrArg},
		{"mention and tie", func(t *api.PeTown) { t.Mentions[3].Parent, t.Ties[0].A = 3, 9 }, 3, 3, api.ErrArg},
	} {
		town := wrongTown()
		c.change(&town)
		if part, at, e := person.Check(town); part != c.part || at != c.at || e != c.e {
			t.Errorf("%s: Check = %d, %d, %d", c.name, part, at, e)
		}
	}
}

// P3.2 to P3.6, P1: the errors behind that of Check, in their order
func TestErrors(t *testing.T) {
	const ok, arg, no, rang, zero, down = api.OK, api.ErrArg, api.ErrNone, api.ErrRange, api.ErrZero, api.ErrDown
	good := born(0, none, 100, 110, none)
	lost := example(same(0, 2)) // of two villages
	gone := plain([]api.PeMention{born(0, none, 0, 9, 1), born(0, none, 0, 9, 0)})
	for i, c := range []struct {
		town          api.PeTown
		a, b, mention int
		x             api.PeMention
		want          [7]api.Errno
	}{
		{example(), 0, 1, 3, good, [7]api.Errno{}},
		{example(), 4, 4, 4, good, [7]api.Errno{ok, no, ok, no, no, ok, ok}},
		{example(), -1, -1, -1, good, [7]api.Errno{ok, no, ok, no, no, ok, ok}},
		{example(), 0, math.MaxInt, math.MaxInt, good, [7]api.Errno{ok, no, ok, no, no, ok, ok}},
		{example(), math.MinInt, 0, math.MinInt, good, [7]api.Errno{ok, no, ok, no, no, ok, ok}},
		{example(), 3, 3, 0, good, [7]api.Errno{ok, arg, ok, ok, arg, ok, ok}},
		{lost, 0, 1, 0, good, [7]api.Errno{zero, zero, zero, zero, ok, ok, zero}},
		{lost, 4, 4, 4, born(4, 9, 300, 200, 9), [7]api.Errno{zero, no, zero, no, no, ok, no}},
		{lost, 2, 2, 2, born(0, none, 9, 8, none), [7]api.Errno{zero, arg, zero, zero, arg, ok, arg}},
		{gone, 0, 1, 1, born(0, none, 0, 0, 0), [7]api.Errno{zero, zero, zero, zero, ok, down, zero}},
		{example(), 0, 1, 0, born(4, none, 0, 0, none), [7]api.Errno{ok, ok, ok, ok, ok, ok, no}},
		{example(), 0, 1, 0, born(-1, none, 0, 0, none), [7]api.Errno{ok, ok, ok, ok, ok, ok, no}},
		{example(), 0, 1, 0, born(0, 2, 0, 0, none), [7]api.Errno{ok, ok, ok, ok, ok, ok, no}},
		{example(), 0, 1, 0, born(0, -2, 0, 0, none), [7]api.Errno{ok, ok, ok, ok, ok, ok, no}},
		{example(), 0, 1, 0, born(0, 1, 0, 0, 4), [7]api.Errno{ok, ok, ok, ok, ok, ok, no}},
		{example(), 0, 1, 0, born(0, 1, 0, 0, -2), [7]api.Errno{ok, ok, ok, ok, ok, ok, no}},
		{example(), 0, 1, 0, born(0, 1, 300, 200, 4), [7]api.Errno{ok, ok, ok, ok, ok, ok, no}},
		{example(), 0, 1, 0, born(0, 1, -1, 0, 3), [7]api.Errno{ok, ok, ok, ok, ok, ok, rang}},
		{example(), 0, 1, 0, born(0, 1, 0, 200, 3), [7]api.Errno{ok, ok, ok, ok, ok, ok, rang}},
		{example(), 0, 1, 0, born(0, 1, 201, 200, 3), [7]api.Errno{ok, ok, ok, ok, ok, ok, rang}},
		{example(), 0, 1, 0, born(0, 1, 101, 100, 3), [7]api.Errno{ok, ok, ok, ok, ok, ok, arg}},
		{plain(nil), 0, 0, 0, born(0, 3, 0, 199, none), [7]api.Errno{ok, no, ok, no, no, ok, ok}},
		{plain(nil), 0, 0, 0, born(0, 3, 0, 199, 0), [7]api.Errno{ok, no, ok, no, no, ok, no}},
	} {
		if got := errors(c.town, c.a, c.b, c.mention, c.x); got != c.want {
			t.Errorf("%d: errors %v", i, got)
		}
	}
}

// P3.1 to P3.6, R2: with an error every other result is its zero value
func TestZeroWithError(t *testing.T) {
	bad := example()
	bad.Mentions[3].Parent = 3
	never := plain([]api.PeMention{born(0, none, 0, 199, 1), born(0, none, 0, 199, 0)})
	for i, c := range []struct {
		town          api.PeTown
		a, b, mention int
		x             api.PeMention
	}{
		{bad, 0, 1, 0, born(0, none, 100, 110, none)},
		{never, 0, 1, 0, born(0, none, 100, 110, none)},
		{example(), 4, 0, 4, born(0, none, 300, 200, none)},
		{example(), 2, 2, -1, born(0, none, 110, 100, none)},
	} {
		got := errors(c.town, c.a, c.b, c.mention, c.x)
		persons, many, _ := person.First(c.town)
		same, _ := person.Same(c.town, c.a, c.b)
		few, _ := person.Persons(c.town)
		years, _ := person.Born(c.town, c.mention)
		why, _ := person.Why(c.town, c.a, c.b)
		out, _ := person.Wrong(c.town)
		who, _ := person.Who(c.town, c.x)
		nothing := api.Span{}
		if got[0] != api.OK && (len(persons) != 0 || many != 0) || got[2] != api.OK && few != nothing || got[3] == api.OK || years != nothing ||
			got[1] == api.OK || same != 0 || got[4] != api.OK && why != 0 || got[5] != api.OK && len(out) != 0 || got[6] == api.OK || len(who) != 0 {
			t.Errorf("%d: errors %v; %v, %d; %d; %v; %v; %d; %v; %v", i, got, persons, many, same, few, years, why, out, who)
		}
	}
}

// P3.2
func TestFirst(t *testing.T) {
	free := born(0, none, 0, 199, none)
	for i, c := range []struct {
		town    api.PeTown
		persons []int
		many    int
		few     api.Span
	}{
		{plain(nil), nil, 1, api.Span{}},
		{plain([]api.PeMention{free}), []int{0}, 1, api.Span{Lo: 1, Hi: 1}},
		{plain([]api.PeMention{free, free}), []int{0, 0}, 2, api.Span{Lo: 1, Hi: 2}},
		{plain([]api.PeMention{free, free, free, free, free}), []int{0, 0, 0, 0, 0}, 52, api.Span{Lo: 1, Hi: 5}},
		{plain([]api.PeMention{free, free, free}, apart(1, 0)), []int{0, 1, 0}, 3, api.Span{Lo: 2, Hi: 3}},
		{plain([]api.PeMention{free, free, free}, same(2, 0), apart(0, 1)), []int{0, 1, 0}, 1, api.Span{Lo: 2, Hi: 2}},
		// two villages, and somebody without one who cannot be of both
		{plain([]api.PeMention{born(0, 0, 0, 199, none), born(0, none, 0, 199, none), born(0, 3, 0, 199, none)}), []int{0, 0, 1}, 3, api.Span{Lo: 2, Hi: 3}},
		{plain([]api.PeMention{born(0, 2, 0, 199, none), born(0, 2, 0, 199, none)}), []int{0, 0}, 2, api.Span{Lo: 1, Hi: 2}},
		// years of which two have one in common, but for those of the first and the last
		{plain([]api.PeMention{born(0, 0, 0, 10, none), born(0, 0, 10, 20, none), born(0, 0, 20, 30, none)}), []int{0, 0, 1}, 3, api.Span{Lo: 2, Hi: 3}},
		{plain([]api.PeMention{born(0, 0, 0, 9, none), born(0, 0, 10, 20, none)}), []int{0, 1}, 1, api.Span{Lo: 2, Hi: 2}},
		// letters any two of which can be of one sound, but not all three
		{api.PeTown{Ear: book("2a", "2b", "2c"), Villages: 1, Mentions: []api.PeMention{born(0, 0, 0, 0, none), born(1, 0, 0, 0, none), born(2, 0, 0, 0, none)}}, []int{0, 0, 1}, 4, api.Span{Lo: 2, Hi: 3}},
		// a parent, and two children who are one person only if their parents are
		{plain([]api.PeMention{born(0, none, 100, 100, none), born(0, none, 130, 130, 0)}), []int{0, 1}, 1, api.Span{Lo: 2, Hi: 2}},
		{plain([]api.PeMention{born(0, 0, 100, 100, none), born(0, 1, 100, 100, none), born(0, none, 130, 130, 0), born(0, none, 130, 130, 1)}), []int{0, 1, 2, 3}, 1, api.Span{Lo: 4, Hi: 4}},
		{plain([]api.PeMention{born(0, 0, 100, 100, none), born(0, 0, 100, 100, none), born(0, none, 130, 130, 0), born(0, none, 130, 130, 1)}), []int{0, 0, 1, 1}, 3, api.Span{Lo: 2, Hi: 4}},
		// a child who is told of by the parent of another person
		{plain([]api.PeMention{born(0, 0, 100, 130, none), born(0, 0, 100, 130, 0), born(0, 0, 100, 130, 1)}), []int{0, 1, 2}, 1, api.Span{Lo: 3, Hi: 3}},
		{plain([]api.PeMention{born(0, 0, 100, 129, none), born(0, 0, 100, 129, 0), born(0, 0, 100, 129, none)}), []int{0, 1, 0}, 3, api.Span{Lo: 2, Hi: 3}},
	} {
		persons, many, e := person.First(c.town)
		if !slices.Equal(persons, c.persons) || many != c.many || e != api.OK {
			t.Errorf("%d: First = %v, %d, %d", i, persons, many, e)
		}
		if few := must[api.Span](t)(person.Persons(c.town)); few != c.few {
			t.Errorf("%d: Persons = %v", i, few)
		}
	}
}

// P3.2, P3.3: what has no truth
func TestNoTruth(t *testing.T) {
	free := born(0, none, 0, 199, none)
	for i, town := range []api.PeTown{
		plain([]api.PeMention{free, free}, same(0, 1), apart(0, 1)),
		plain([]api.PeMention{free, free}, same(0, 1), apart(1, 0)),
		plain([]api.PeMention{free, free, free}, same(0, 1), same(2, 1), apart(0, 2)),
		plain([]api.PeMention{born(0, 0, 0, 0, none), born(0, 1, 0, 0, none)}, same(0, 1)),
		plain([]api.PeMention{free, born(0, none, 0, 199, 0)}, same(0, 1)),
		plain([]api.PeMention{born(0, none, 0, 199, 1), born(0, none, 0, 199, 0)}),
		plain([]api.PeMention{born(0, none, 0, 199, 1), born(0, none, 0, 199, 2), born(0, none, 0, 199, 0)}),
		plain([]api.PeMention{born(0, none, 100, 100, none), born(0, none, 100, 114, 0)}),
		plain([]api.PeMention{born(0, none, 100, 100, none), born(0, none, 161, 199, 0)}),
		plain([]api.PeMention{born(0, 0, 20, 20, none), born(0, 1, 10, 10, none), born(0, 2, 60, 60, 0), born(0, 3, 60, 60, 1)}, same(2, 3)),
		// the parent of one's own child by another mention
		plain([]api.PeMention{free, born(0, none, 0, 199, 0), free}, same(1, 2), same(2, 0)),
		{Ear: book("2a", "2b", "2c"), Villages: 1, Mentions: []api.PeMention{born(0, 0, 0, 0, none), born(1, 0, 0, 0, none), born(2, 0, 0, 0, none)}, Ties: []api.PeTie{same(0, 1), same(1, 2)}},
	} {
		want := [7]api.Errno{api.ErrZero, api.ErrZero, api.ErrZero, api.ErrZero, api.OK, api.OK, api.ErrZero}
		if len(town.Ties) == 0 {
			want[5] = api.ErrDown
		}
		if got := errors(town, 0, 1, 0, free); got != want {
			t.Errorf("%d: errors %v", i, got)
		}
	}
}

// P3.2
func TestSame(t *testing.T) {
	free := born(0, none, 0, 199, none)
	brothers := []api.PeMention{born(0, 0, 100, 100, none), born(0, 0, 100, 100, none), born(0, none, 130, 130, 0), born(0, none, 130, 130, 1)}
	for i, c := range []struct {
		town api.PeTown
		a, b int
		want int
	}{
		{plain([]api.PeMention{free, free}), 0, 1, api.May},
		{plain([]api.PeMention{free, free}, same(0, 1)), 0, 1, api.Must},
		{plain([]api.PeMention{free, free}, apart(0, 1)), 0, 1, api.Never},
		{plain([]api.PeMention{free, free, free}, same(0, 1), same(1, 2)), 0, 2, api.Must},
		{plain([]api.PeMention{free, free, free}, same(0, 1), apart(2, 1)), 0, 2, api.Never},
		{plain(brothers), 2, 3, api.May},
		{plain(brothers, same(2, 3)), 0, 1, api.Must},
		{plain(brothers, apart(0, 1)), 2, 3, api.Never},
		{plain(brothers, same(0, 1)), 2, 3, api.May},
		// who is as old as the parent is not the child
		{plain([]api.PeMention{born(0, 0, 100, 110, none), born(0, 0, 110, 199, 0), born(0, 0, 105, 114, none)}), 1, 2, api.Never},
		{plain([]api.PeMention{born(0, 0, 100, 110, none), born(0, 0, 110, 199, 0), born(0, 0, 105, 115, none)}), 1, 2, api.May},
	} {
		if n, m := must[int](t)(person.Same(c.town, c.a, c.b)), must[int](t)(person.Same(c.town, c.b, c.a)); n != c.want || m != c.want {
			t.Errorf("%d: Same = %d, %d", i, n, m)
		}
	}
}

// P3.3
func TestBorn(t *testing.T) {
	for i, c := range []struct {
		town api.PeTown
		want []api.Span
	}{
		{plain([]api.PeMention{born(0, 0, 0, 199, none)}), []api.Span{{Lo: 0, Hi: 199}}},
		{plain([]api.PeMention{born(0, 0, 199, 199, none)}), []api.Span{{Lo: 199, Hi: 199}}},
		{plain([]api.PeMention{born(0, 0, 0, 199, none), born(0, 0, 0, 199, 0)}), []api.Span{{Lo: 0, Hi: 184}, {Lo: 15, Hi: 199}}},
		{plain([]api.PeMention{born(0, 0, 100, 100, none), born(0, 0, 0, 199, 0)}), []api.Span{{Lo: 100, Hi: 100}, {Lo: 115, Hi: 160}}},
		{plain([]api.PeMention{born(0, 0, 0, 199, none), born(0, 0, 100, 100, 0)}), []api.Span{{Lo: 40, Hi: 85}, {Lo: 100, Hi: 100}}},
		{plain([]api.PeMention{born(0, 0, 100, 100, none), born(0, 0, 115, 115, 0)}), []api.Span{{Lo: 100, Hi: 100}, {Lo: 115, Hi: 115}}},
		{plain([]api.PeMention{born(0, 0, 100, 100, none), born(0, 0, 160, 160, 0)}), []api.Span{{Lo: 100, Hi: 100}, {Lo: 160, Hi: 160}}},
		// a grandparent, told behind the others
		{plain([]api.PeMention{born(0, 0, 150, 160, 1), born(0, 0, 0, 199, 2), born(0, 0, 30, 40, none)}), []api.Span{{Lo: 150, Hi: 160}, {Lo: 90, Hi: 100}, {Lo: 30, Hi: 40}}},
		{plain([]api.PeMention{born(0, 0, 0, 199, 1), born(0, 0, 0, 199, 2), born(0, 0, 0, 199, 3), born(0, 0, 0, 10, none)}), []api.Span{{Lo: 45, Hi: 190}, {Lo: 30, Hi: 130}, {Lo: 15, Hi: 70}, {Lo: 0, Hi: 10}}},
		// of one person surely, or perhaps
		{plain([]api.PeMention{born(0, 0, 100, 120, none), born(0, 0, 110, 130, none)}, same(0, 1)), []api.Span{{Lo: 110, Hi: 120}, {Lo: 110, Hi: 120}}},
		{plain([]api.PeMention{born(0, 0, 100, 120, none), born(0, 0, 110, 130, none)}), []api.Span{{Lo: 100, Hi: 120}, {Lo: 110, Hi: 130}}},
		// two parents who are one person, because two children are
		{plain([]api.PeMention{born(0, 0, 100, 120, none), born(0, 0, 110, 130, none), born(0, 0, 150, 150, 0), born(0, 0, 150, 180, 1)}, same(2, 3)), []api.Span{{Lo: 110, Hi: 120}, {Lo: 110, Hi: 120}, {Lo: 150, Hi: 150}, {Lo: 150, Hi: 150}}},
		// the ends are of two truths: apart from 0 and 1 the mention 2 is somebody else
		{plain([]api.PeMention{born(0, 0, 100, 110, none), born(0, 1, 120, 130, none), born(0, none, 105, 125, none)}, apart(0, 1)), []api.Span{{Lo: 100, Hi: 110}, {Lo: 120, Hi: 130}, {Lo: 105, Hi: 125}}},
		{plain([]api.PeMention{born(0, 0, 100, 110, none), born(0, 1, 120, 130, none), born(0, none, 105, 125, none), born(0, none, 175, 175, 2)}, same(2, 1)), []api.Span{{Lo: 100, Hi: 110}, {Lo: 120, Hi: 125}, {Lo: 120, Hi: 125}, {Lo: 175, Hi: 175}}},
	} {
		for at, want := range c.want {
			if s := must[api.Span](t)(person.Born(c.town, at)); s != want {
				t.Errorf("%d: Born of %d = %v", i, at, s)
			}
		}
	}
}

// P3.4
func TestWhy(t *testing.T) {
	for i, c := range []struct {
		a, b api.PeMention
		want int
	}{
		{born(0, 0, 100, 110, none), born(1, 0, 110, 120, none), api.PeNothing},
		{born(0, 0, 100, 110, none), born(0, none, 100, 100, none), api.PeNothing},
		{born(0, none, 100, 110, none), born(0, 1, 0, 199, none), api.PeNothing},
		{born(0, none, 100, 110, none), born(1, none, 109, 109, none), api.PeNothing},
		{born(0, 0, 100, 110, none), born(2, 0, 100, 110, none), api.PeSound},
		{born(0, 0, 100, 110, none), born(2, 1, 111, 120, 0), api.PeSound},
		{born(0, 0, 100, 110, none), born(1, 1, 100, 110, none), api.PeVillage},
		{born(0, 0, 100, 110, none), born(1, 1, 111, 120, 0), api.PeVillage},
		{born(0, 0, 100, 110, none), born(1, 0, 111, 120, none), api.PeYears},
		{born(0, 0, 100, 110, none), born(1, none, 60, 99, none), api.PeYears},
		{born(0, 0, 100, 110, 1), born(1, 0, 60, 99, none), api.PeYears},
		{born(0, 0, 100, 130, none), born(1, 0, 110, 120, 0), api.PeKin},
		{born(0, 0, 100, 130, 1), born(1, 0, 110, 120, none), api.PeKin},
		{born(0, 0, 100, 130, 1), born(0, 0, 110, 120, 0), api.PeKin},
		{born(0, 0, 100, 110, 2), born(1, 0, 110, 120, 2), api.PeNothing},
		{born(0, 0, 100, 110, 2), born(1, 0, 110, 120, none), api.PeNothing},
	} {
		town := api.PeTown{Ear: book("0ke", "1ky", "0a"), Villages: 2, Mentions: []api.PeMention{c.a, c.b, born(0, 0, 60, 60, none)}}
		if n, m := must[int](t)(person.Why(town, 0, 1)), must[int](t)(person.Why(town, 1, 0)); n != c.want || m != c.want {
			t.Errorf("%d: Why = %d, %d", i, n, m)
		}
		// ties, and what others make impossible, keep nobody apart
		town.Ties = []api.PeTie{apart(0, 1), same(0, 1)}
		if n := must[int](t)(person.Why(town, 0, 1)); n != c.want {
			t.Errorf("%d: Why = %d with ties", i, n)
		}
	}
}

// P3.5
func TestWrong(t *testing.T) {
	free := born(0, none, 0, 199, none)
	four := []api.PeMention{free, free, free, free}
	for i, c := range []struct {
		town api.PeTown
		want []int
		e    api.Errno
	}{
		{plain(nil), nil, api.OK},
		{plain(four), nil, api.OK},
		{plain(four, same(0, 1), same(1, 0), apart(2, 3)), nil, api.OK},
		{plain(four, same(0, 1), apart(0, 1)), []int{0}, api.OK},
		{plain(four, same(0, 1), apart(0, 1), apart(1, 0)), []int{0}, api.OK},
		{plain(four, apart(0, 1), same(0, 1), same(1, 0)), []int{0}, api.OK},
		{plain(four, same(0, 1), same(0, 1), apart(1, 0)), []int{2}, api.OK},
		{plain(four, same(0, 1), apart(0, 1), same(2, 3), apart(2, 3)), []int{0, 2}, api.OK},
		{plain(four, same(0, 1), same(1, 2), same(2, 3), apart(3, 0)), []int{0}, api.OK},
		{plain(four, same(0, 1), same(1, 2), apart(2, 0), same(2, 0)), []int{2}, api.OK},
		{plain(four, same(2, 3), same(0, 1), apart(0, 1), apart(1, 0)), []int{1}, api.OK},
		{plain([]api.PeMention{born(0, 0, 0, 9, none), born(0, 1, 0, 9, none), born(0, 2, 0, 9, none)}, same(0, 1), apart(0, 2), same(1, 2), same(0, 2)), []int{0, 2, 3}, api.OK},
		{plain([]api.PeMention{free, born(0, none, 0, 199, 0)}, apart(0, 1), same(0, 1)), []int{1}, api.OK},
		{plain([]api.PeMention{born(0, none, 0, 199, 1), born(0, none, 0, 199, 0)}, apart(0, 1)), nil, api.ErrDown},
		{plain([]api.PeMention{born(0, none, 100, 100, none), born(0, none, 0, 114, 0)}), nil, api.ErrDown},
	} {
		if l, e := person.Wrong(c.town); !slices.Equal(l, c.want) || e != c.e {
			t.Errorf("%d: Wrong = %v, %d", i, l, e)
		}
	}
}

// P3.6
func TestWho(t *testing.T) {
	free := born(0, none, 0, 199, none)
	five := []api.PeMention{born(0, 0, 100, 110, none), born(0, 1, 100, 110, none), born(0, none, 150, 160, 0), free, free}
	for i, c := range []struct {
		town api.PeTown
		x    api.PeMention
		want []int
	}{
		{plain(nil), free, nil},
		{plain([]api.PeMention{free}), free, []int{0}},
		{plain([]api.PeMention{free}), born(0, none, 0, 199, 0), nil},
		{plain([]api.PeMention{free, free, free, free, free}), free, []int{0, 1, 2, 3, 4}},
		{plain(five), born(0, none, 100, 110, none), []int{0, 1, 3, 4}},
		{plain(five), born(0, 1, 100, 110, none), []int{1, 3, 4}},
		{plain(five), born(0, none, 100, 160, 1), []int{3, 4}},
		{plain(five), born(0, none, 100, 160, 0), []int{2, 3, 4}},
		{plain(five), born(0, none, 100, 160, 3), []int{0, 1, 2, 4}},
		{plain(five, apart(0, 3)), born(0, none, 100, 160, 3), []int{0, 1, 4}},
		{plain(five, apart(3, 4), same(0, 3)), born(0, 0, 100, 110, none), []int{0, 3, 4}},
		// x has a parent, so the town has no truth with x
		{plain([]api.PeMention{born(0, none, 100, 110, none)}), born(0, none, 0, 114, 0), nil},
		{plain([]api.PeMention{born(0, none, 100, 110, none), free}), born(0, none, 171, 199, 0), nil},
		{plain([]api.PeMention{born(0, none, 100, 110, none), free}), born(0, none, 170, 199, 0), []int{1}},
	} {
		if l := must[[]int](t)(person.Who(c.town, c.x)); !slices.Equal(l, c.want) {
			t.Errorf("%d: Who = %v", i, l)
		}
	}
	runic := api.PeTown{Ear: book("2a", "2b", "2c", "0k"), Villages: 1, Mentions: []api.PeMention{born(0, 0, 0, 0, none), born(1, 0, 0, 0, none)}}
	for i, c := range []struct {
		spelling int
		ties     []api.PeTie
		want     []int
	}{{2, nil, []int{0, 1}}, {2, []api.PeTie{same(0, 1)}, nil}, {2, []api.PeTie{apart(0, 1)}, []int{0, 1}}, {3, nil, []int{1}}, {0, []api.PeTie{same(0, 1)}, []int{0, 1}}} {
		runic.Ties = c.ties
		if l := must[[]int](t)(person.Who(runic, born(c.spelling, none, 0, 0, none))); !slices.Equal(l, c.want) {
			t.Errorf("%d: Who = %v", i, l)
		}
	}
}

// the chapter's examples
func TestExamples(t *testing.T) {
	town, u, v := example(), example(same(0, 1)), example(same(0, 1), apart(0, 1))
	if l, many, e := person.First(town); !slices.Equal(l, []int{0, 0, 1, 1}) || many != 4 || e != api.OK {
		t.Errorf("First of T = %v, %d, %d", l, many, e)
	}
	if l, many, e := person.First(u); !slices.Equal(l, []int{0, 0, 1, 1}) || many != 2 || e != api.OK {
		t.Errorf("First of U = %v, %d, %d", l, many, e)
	}
	if n, m, o := must[int](t)(person.Same(town, 0, 1)), must[int](t)(person.Same(town, 0, 2)), must[int](t)(person.Same(u, 0, 1)); n != api.May || m != api.Never || o != api.Must {
		t.Errorf("Same = %d, %d, %d", n, m, o)
	}
	if s, r := must[api.Span](t)(person.Persons(town)), must[api.Span](t)(person.Persons(u)); s != (api.Span{Lo: 2, Hi: 4}) || r != (api.Span{Lo: 2, Hi: 3}) {
		t.Errorf("Persons = %v, %v", s, r)
	}
	for i, c := range []struct {
		town    api.PeTown
		mention int
		want    api.Span
	}{{town, 0, api.Span{Lo: 100, Hi: 110}}, {town, 3, api.Span{Lo: 130, Hi: 140}}, {u, 0, api.Span{Lo: 105, Hi: 110}}} {
		if s := must[api.Span](t)(person.Born(c.town, c.mention)); s != c.want {
			t.Errorf("%d: Born = %v", i, s)
		}
	}
	for _, c := range [][3]int{{0, 2, api.PeVillage}, {0, 3, api.PeYears}, {1, 2, api.PeSound}, {2, 3, api.PeNothing}} {
		if n := must[int](t)(person.Why(town, c[0], c[1])); n != c[2] {
			t.Errorf("Why of %v = %d", c, n)
		}
	}
	if l, m := must[[]int](t)(person.Wrong(u)), must[[]int](t)(person.Wrong(v)); len(l) != 0 || !slices.Equal(m, []int{0}) {
		t.Errorf("Wrong = %v, %v", l, m)
	}
	if l := must[[]int](t)(person.Who(town, born(0, 1, 120, 120, none))); !slices.Equal(l, []int{1, 2}) {
		t.Errorf("Who = %v", l)
	}
}
