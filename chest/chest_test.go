package chest_test

import (
	"math"
	"slices"
	"strings"
	"testing"

	"escribano/api"
	"escribano/chest"
)

// wrong is one thing that is wrong with a chest: what Check returns of it.
type wrong struct {
	name     string
	change   func(c *api.ChChest)
	part, at int
	e        api.Errno
}

// words, facts, last and person are changes of these.
func words(n int) func(c *api.ChChest) { return func(c *api.ChChest) { c.Words = n } }

func facts(n int) func(c *api.ChChest) { return func(c *api.ChChest) { c.Facts = n } }

func last(n int) func(c *api.ChChest) { return func(c *api.ChChest) { c.Last = n } }

func person(name string) func(c *api.ChChest) { return func(c *api.ChChest) { c.People[1] = name } }

// aCopy and aRule are changes of the copy 2, and of the rule 0, behind which there is another one.
func aCopy(change func(o *api.ChCopy)) func(c *api.ChChest) {
	return func(c *api.ChChest) { change(&c.Copies[2]) }
}

func aRule(r api.ChRule) func(c *api.ChChest) {
	return func(c *api.ChChest) { c.Rules = []api.ChRule{r, rule(1, 0)} }
}

// number, wordsOf, factsOfOne and may are changes of the copy 2.
func number(n int) func(c *api.ChChest) { return aCopy(func(o *api.ChCopy) { o.Number = n }) }

func wordsOf(n int) func(c *api.ChChest) { return aCopy(func(o *api.ChCopy) { o.Words = n }) }

func factsOfOne(n int) func(c *api.ChChest) { return aCopy(func(o *api.ChCopy) { o.Facts = n }) }

func may(n int) func(c *api.ChChest) { return aCopy(func(o *api.ChCopy) { o.May = n }) }

// morePeople, moreCopies and moreRules are changes by which there are more, which are not valid.
func morePeople(many int) func(c *api.ChChest) {
	return func(c *api.ChChest) { c.People = append(c.People, make([]string, many)...) }
}

func moreCopies(many int) func(c *api.ChChest) {
	return func(c *api.ChChest) { c.Copies = append(c.Copies, make([]api.ChCopy, many)...) }
}

func moreRules(many int) func(c *api.ChChest) {
	return func(c *api.ChChest) { c.Rules = append(c.Rules, make([]api.ChRule, many)...) }
}

// wrongs returns what can be wrong, in the order of the errors.
func wrongs() []wrong {
	return []wrong{
		{"words", words(6), 1, 0, api.ErrRange},
		{"too many people", morePeople(2), 2, 0, api.ErrLong},
		{"name", person("Ben"), 2, 1, api.ErrForm},
		{"name twice", person("ana"), 2, 1, api.ErrTwice},
		{"too many copies", moreCopies(3), 3, 0, api.ErrLong},
		{"number", number(7), 3, 2, api.ErrRange},
		{"number twice", number(3), 3, 2, api.ErrArg},
		{"word that is none", wordsOf(8), 3, 2, api.ErrNone},
		{"too many rules", moreRules(4), 4, 0, api.ErrLong},
		{"fact that is none", aRule(rule(16, 0)), 4, 0, api.ErrNone},
		{"rule without a fact", aRule(rule(0, 0)), 4, 0, api.ErrArg},
	}
}

// wrongNumbers returns what else can be wrong with numbers and people, and what is not.
func wrongNumbers() []wrong {
	return []wrong{
		{"nothing", func(c *api.ChChest) {}, 0, 0, api.OK},
		{"nothing there", func(c *api.ChChest) { *c = api.ChChest{Words: 1, Facts: 1} }, 0, 0, api.OK},
		{"no lists", func(c *api.ChChest) { c.People, c.Copies, c.Rules = []string{}, []api.ChCopy{}, []api.ChRule{} }, 0, 0, api.OK},
		{"zero", func(c *api.ChChest) { *c = api.ChChest{} }, 1, 0, api.ErrRange},
		{"most words", words(5), 0, 0, api.OK},
		{"no words", words(0), 1, 0, api.ErrRange},
		{"words below 0", words(-1), 1, 0, api.ErrRange},
		{"far words", words(math.MaxInt), 1, 0, api.ErrRange},
		{"far words below 0", words(math.MinInt), 1, 0, api.ErrRange},
		{"fewer words", words(2), 3, 2, api.ErrNone},
		{"most facts", facts(6), 0, 0, api.OK},
		{"too many facts", facts(7), 1, 0, api.ErrRange},
		{"no facts", facts(0), 1, 0, api.ErrRange},
		{"far facts", facts(math.MaxInt), 1, 0, api.ErrRange},
		{"far facts below 0", facts(math.MinInt), 1, 0, api.ErrRange},
		{"fewer facts", facts(2), 3, 2, api.ErrNone},
		{"facts without that of a rule", facts(3), 4, 0, api.ErrNone},
		{"one fact of one", func(c *api.ChChest) { c.Facts, c.Copies, c.Rules = 1, nil, []api.ChRule{rule(1, 0)} }, 0, 0, api.OK},
		{"most numbers", last(30), 0, 0, api.OK},
		{"too many numbers", last(31), 1, 0, api.ErrRange},
		{"numbers below 0", last(-1), 1, 0, api.ErrRange},
		{"far numbers", last(math.MaxInt), 1, 0, api.ErrRange},
		{"far numbers below 0", last(math.MinInt), 1, 0, api.ErrRange},
		{"no number", last(0), 3, 0, api.ErrRange},
		{"fewer numbers", last(5), 3, 3, api.ErrRange},
		{"three people", func(c *api.ChChest) { c.People = append(c.People, "x") }, 0, 0, api.OK},
		{"four people", func(c *api.ChChest) { c.People = append(c.People, "x", "y") }, 2, 0, api.ErrLong},
		{"no people", func(c *api.ChChest) { c.People = nil }, 3, 0, api.ErrNone},
		{"no name", person(""), 2, 1, api.ErrForm},
		{"long name", person(strings.Repeat("c", 17)), 2, 1, api.ErrForm},
		{"name of 16 bytes", person("c.23456789012345"), 0, 0, api.OK},
		{"first name", func(c *api.ChChest) { c.People[0] = "0" }, 2, 0, api.ErrForm},
		{"first and last name", func(c *api.ChChest) { c.People = append(c.People, "ana") }, 2, 2, api.ErrTwice},
	}
}

// wrongCopies returns what else can be wrong with copies, and what is not.
func wrongCopies() []wrong {
	return []wrong{
		{"no copies", func(c *api.ChChest) { c.Copies = nil }, 0, 0, api.OK},
		{"six copies", func(c *api.ChChest) {
			c.Last, c.Copies = 8, append(c.Copies, copied(7, 0, 0, 0), copied(8, 0, 0, 0))
		}, 0, 0, api.OK},
		{"seven copies", func(c *api.ChChest) {
			c.Last, c.Copies = 9, append(c.Copies, copied(7, 0, 0, 0), copied(8, 0, 0, 0), copied(9, 0, 0, 0))
		}, 3, 0, api.ErrLong},
		{"number 0", number(0), 3, 2, api.ErrRange},
		{"number below 0", number(-1), 3, 2, api.ErrRange},
		{"far number", number(math.MaxInt), 3, 2, api.ErrRange},
		{"far number below 0", number(math.MinInt), 3, 2, api.ErrRange},
		{"number of the copy behind", number(6), 3, 3, api.ErrArg},
		{"last number, and one less behind it", number(5), 0, 0, api.OK},
		{"number below that ahead", number(2), 3, 2, api.ErrArg},
		{"number of the first copy", number(1), 3, 2, api.ErrArg},
		{"first number", func(c *api.ChChest) { c.Copies[0].Number = 0 }, 3, 0, api.ErrRange},
		{"no words of a copy", wordsOf(0), 0, 0, api.OK},
		{"all words of a copy", wordsOf(7), 0, 0, api.OK},
		{"words of a copy below 0", wordsOf(-1), 3, 2, api.ErrNone},
		{"far words of a copy", wordsOf(math.MaxInt), 3, 2, api.ErrNone},
		{"far words of a copy below 0", wordsOf(math.MinInt), 3, 2, api.ErrNone},
		{"no facts of a copy", factsOfOne(0), 0, 0, api.OK},
		{"all facts of a copy", factsOfOne(15), 0, 0, api.OK},
		{"facts of a copy", factsOfOne(16), 3, 2, api.ErrNone},
		{"facts of a copy below 0", factsOfOne(-1), 3, 2, api.ErrNone},
		{"far facts of a copy", factsOfOne(1 << 40), 3, 2, api.ErrNone},
		{"far facts of a copy below 0", factsOfOne(math.MinInt), 3, 2, api.ErrNone},
		{"nobody may", may(0), 0, 0, api.OK},
		{"all may", may(3), 0, 0, api.OK},
		{"somebody who is none may", may(4), 3, 2, api.ErrNone},
		{"people below 0 may", may(-1), 3, 2, api.ErrNone},
		{"far people may", may(math.MaxInt), 3, 2, api.ErrNone},
		{"far people below 0 may", may(math.MinInt), 3, 2, api.ErrNone},
		{"nobody there to see it", func(c *api.ChChest) {
			c.People, c.Copies = nil, []api.ChCopy{copied(2, 7, 15, 0)}
		}, 0, 0, api.OK},
	}
}

// wrongRules returns what else can be wrong with rules, and what is not.
func wrongRules() []wrong {
	return []wrong{
		{"no rules", func(c *api.ChChest) { c.Rules = nil }, 0, 0, api.OK},
		{"four rules", func(c *api.ChChest) { c.Rules = []api.ChRule{rule(1, 0), rule(1, 0), rule(15, 3), rule(8, 1)} }, 0, 0, api.OK},
		{"five rules", func(c *api.ChChest) { c.Rules = slices.Repeat([]api.ChRule{rule(1, 0)}, 5) }, 4, 0, api.ErrLong},
		{"last rule", func(c *api.ChChest) { c.Rules = append(c.Rules, rule(1, 4)) }, 4, 1, api.ErrNone},
		{"facts below 0", aRule(rule(-1, 0)), 4, 0, api.ErrNone},
		{"far facts of a rule", aRule(rule(math.MaxInt, 0)), 4, 0, api.ErrNone},
		{"far facts of a rule below 0", aRule(rule(math.MinInt, 0)), 4, 0, api.ErrNone},
		{"no fact below 0", aRule(rule(1, -1)), 4, 0, api.ErrNone},
		{"no fact", aRule(rule(1, 4)), 4, 0, api.ErrNone},
		{"far fact", aRule(rule(1, math.MaxInt)), 4, 0, api.ErrNone},
		{"far fact below 0", aRule(rule(1, math.MinInt)), 4, 0, api.ErrNone},
		{"nothing for no fact", aRule(rule(0, 4)), 4, 0, api.ErrNone},
		{"all facts for the last one", aRule(rule(15, 3)), 0, 0, api.OK},
	}
}

// P10.1: each error, which all functions return first
func TestCheckEach(t *testing.T) {
	for _, w := range slices.Concat(wrongs(), wrongNumbers(), wrongCopies(), wrongRules()) {
		c := example()
		w.change(&c)
		part, at, e := chest.Check(c)
		if part != w.part || at != w.at || e != w.e {
			t.Errorf("%s: Check = %d, %d, %d", w.name, part, at, e)
		}
		for _, a := range []arguments{{}, {person: -1, number: 99, fact: 9, words: []int{9, 9}, copies: []int{1, 0}}} {
			if got := ask(c, a).errors; e != api.OK && got != allErrors(e) {
				t.Errorf("%s: errors %v", w.name, got)
			}
		}
	}
}

// P10.1, P1: of two errors the one that is named first, and of two things with an error the first one
func TestCheckFirst(t *testing.T) {
	all := wrongs()
	for i, w := range all {
		for _, x := range all[i+1:] {
			c := example()
			x.change(&c)
			w.change(&c)
			if part, at, e := chest.Check(c); part != w.part || at != w.at || e != w.e {
				t.Errorf("%s, and %s: Check = %d, %d, %d", w.name, x.name, part, at, e)
			}
		}
	}
	for _, w := range []wrong{
		{"facts and people", func(c *api.ChChest) { c.Facts, c.People = 0, make([]string, 9) }, 1, 0, api.ErrRange},
		{"last and copies", func(c *api.ChChest) { c.Last, c.Copies[0].Number = 31, 0 }, 1, 0, api.ErrRange},
		{"people", func(c *api.ChChest) { c.People[0], c.People[1] = "", "" }, 2, 0, api.ErrForm},
		{"people and more", func(c *api.ChChest) { c.People = []string{"ana", "ana", ""} }, 2, 1, api.ErrTwice},
		{"person and copies", func(c *api.ChChest) { c.People[1], c.Copies = "ana", make([]api.ChCopy, 9) }, 2, 1, api.ErrTwice},
		{"copies", func(c *api.ChChest) { c.Copies[1].May, c.Copies[2].Number = 4, 0 }, 3, 1, api.ErrNone},
		{"number twice and out of range", func(c *api.ChChest) { c.Copies[0].Number, c.Copies[1].Number = 6, 0 }, 3, 1, api.ErrRange},
		{"number below that ahead, and words", func(c *api.ChChest) { c.Copies[2].Number, c.Copies[2].Words = 2, -1 }, 3, 2, api.ErrArg},
		{"number 0, and facts", func(c *api.ChChest) { c.Copies[2].Number, c.Copies[2].Facts = 0, -1 }, 3, 2, api.ErrRange},
		{"copy and rules", func(c *api.ChChest) { c.Copies[3].May, c.Rules = 4, make([]api.ChRule, 9) }, 3, 3, api.ErrNone},
		{"rules", func(c *api.ChChest) { c.Rules = []api.ChRule{rule(1, 0), rule(0, 1), rule(16, 0)} }, 4, 1, api.ErrArg},
	} {
		c := example()
		w.change(&c)
		if part, at, e := chest.Check(c); part != w.part || at != w.at || e != w.e {
			t.Errorf("%s: Check = %d, %d, %d", w.name, part, at, e)
		}
	}
}

// P10.2 to P10.6, P1: the errors behind that of Check, in their order
func TestErrors(t *testing.T) {
	const no, arg, rang, down = api.ErrNone, api.ErrArg, api.ErrRange, api.ErrDown
	nobody := api.ChChest{Words: 1, Facts: 1}
	for i, q := range []struct {
		c    api.ChChest
		a    arguments
		want [7]api.Errno
	}{
		{example(), arguments{ana, 1, 0, []int{0}, []int{0}}, [7]api.Errno{}},
		{example(), arguments{ana, 1, 3, []int{0, 1, 2}, []int{0, 1, 2, 3}}, [7]api.Errno{}},
		// people
		{example(), arguments{2, 1, 0, nil, []int{0}}, [7]api.Errno{1: no, 2: no, 5: no, 6: no}},
		{example(), arguments{-1, 9, 0, []int{0}, []int{0}}, [7]api.Errno{1: no, 2: no, 5: no, 6: no}},
		{example(), arguments{math.MaxInt, 9, 4, []int{1, 0}, []int{0}}, [7]api.Errno{1: no, 2: no, 4: no, 5: no, 6: no}},
		{example(), arguments{math.MinInt, 1, 0, nil, []int{0}}, [7]api.Errno{1: no, 2: no, 5: no, 6: no}},
		// facts
		{example(), arguments{ana, 1, 4, nil, nil}, [7]api.Errno{4: no, 5: no}},
		{example(), arguments{ana, 1, -1, nil, []int{0}}, [7]api.Errno{4: no, 5: no}},
		{example(), arguments{ana, 1, math.MaxInt, nil, []int{0}}, [7]api.Errno{4: no, 5: no}},
		{example(), arguments{ana, 1, math.MinInt, nil, []int{0}}, [7]api.Errno{4: no, 5: no}},
		{example(), arguments{ana, 1, 4, nil, []int{1, 0}}, [7]api.Errno{3: arg, 4: no, 5: no}},
		{example(), arguments{2, 1, 4, nil, []int{0}}, [7]api.Errno{1: no, 2: no, 4: no, 5: no, 6: no}},
		// words
		{example(), arguments{ana, 1, 0, []int{3}, []int{0}}, [7]api.Errno{1: no}},
		{example(), arguments{ana, 1, 0, []int{-1}, []int{0}}, [7]api.Errno{1: no}},
		{example(), arguments{ana, 1, 0, []int{0, math.MaxInt}, []int{0}}, [7]api.Errno{1: no}},
		{example(), arguments{ana, 1, 0, []int{math.MinInt, 0}, []int{0}}, [7]api.Errno{1: no}},
		{example(), arguments{ana, 1, 0, []int{1, 0}, []int{0}}, [7]api.Errno{1: arg}},
		{example(), arguments{ana, 1, 0, []int{2, 2}, []int{0}}, [7]api.Errno{1: arg}},
		{example(), arguments{ana, 1, 0, []int{0, 2, 1}, []int{0}}, [7]api.Errno{1: arg}},
		{example(), arguments{ana, 1, 0, []int{1, 0, 3}, []int{0}}, [7]api.Errno{1: no}},
		{example(), arguments{2, 1, 0, []int{1, 0}, []int{0}}, [7]api.Errno{1: no, 2: no, 5: no, 6: no}},
		// copies
		{example(), arguments{ana, 1, 0, nil, []int{4}}, [7]api.Errno{3: no, 4: no}},
		{example(), arguments{ana, 1, 0, nil, []int{-1}}, [7]api.Errno{3: no, 4: no}},
		{example(), arguments{ana, 1, 0, nil, []int{0, math.MaxInt}}, [7]api.Errno{3: no, 4: no}},
		{example(), arguments{ana, 1, 0, nil, []int{math.MinInt, 0}}, [7]api.Errno{3: no, 4: no}},
		{example(), arguments{ana, 1, 0, nil, []int{1, 0}}, [7]api.Errno{3: arg, 4: arg}},
		{example(), arguments{ana, 1, 0, nil, []int{0, 0}}, [7]api.Errno{3: arg, 4: arg}},
		{example(), arguments{ana, 1, 0, nil, []int{0, 2, 1}}, [7]api.Errno{3: arg, 4: arg}},
		{example(), arguments{ana, 1, 0, nil, []int{1, 0, 4}}, [7]api.Errno{3: no, 4: no}},
		{example(), arguments{ana, 1, 3, nil, []int{2, 1, 0}}, [7]api.Errno{3: arg, 4: arg}},
		// numbers
		{example(), arguments{ana, 2, 0, nil, []int{0}}, [7]api.Errno{2: rang}},
		{example(), arguments{ana, 0, 0, nil, []int{0}}, [7]api.Errno{2: rang}},
		{example(), arguments{ana, 7, 0, nil, []int{0}}, [7]api.Errno{2: rang}},
		{example(), arguments{ana, math.MaxInt, 0, nil, []int{0}}, [7]api.Errno{2: rang}},
		{example(), arguments{ben, math.MinInt, 0, nil, []int{0}}, [7]api.Errno{2: rang}},
		{example(), arguments{ben, 4, 0, nil, []int{0}}, [7]api.Errno{2: arg}},
		{example(), arguments{ana, 6, 0, nil, []int{0}}, [7]api.Errno{2: arg}},
		{example(), arguments{2, 2, 0, nil, []int{0}}, [7]api.Errno{1: no, 2: no, 5: no, 6: no}},
		// what there is not
		{example(), arguments{ana, 3, 0, nil, []int{0}}, [7]api.Errno{2: down}},
		{example(), arguments{ana, 1, 3, nil, []int{0, 2}}, [7]api.Errno{4: down}},
		{example(), arguments{ana, 1, 0, nil, nil}, [7]api.Errno{4: down}},
		{nobody, arguments{}, [7]api.Errno{1: no, 2: no, 4: down, 5: no, 6: no}},
		{nobody, arguments{words: []int{0}, copies: []int{0}}, [7]api.Errno{1: no, 2: no, 3: no, 4: no, 5: no, 6: no}},
		{nobody, arguments{fact: 1}, [7]api.Errno{1: no, 2: no, 4: no, 5: no, 6: no}},
	} {
		if got := ask(q.c, q.a).errors; got != q.want {
			t.Errorf("%d: errors %v", i, got)
		}
	}
}

// P10.2 to P10.6, R2: with an error every other result is its zero value
func TestZeroWithError(t *testing.T) {
	bad := example()
	bad.Rules[0].If = 0
	seen := 0
	for i, q := range []struct {
		c api.ChChest
		a arguments
	}{
		{bad, arguments{ana, 1, 0, []int{0}, []int{0}}},
		{example(), arguments{2, 1, 0, []int{0}, []int{2, 1}}},
		{example(), arguments{ben, 4, 0, []int{1, 0}, []int{1, 4}}},
		{example(), arguments{ben, 2, 4, []int{3}, []int{0, 1}}},
		{example(), arguments{ben, 1, 3, []int{0, 0}, []int{1, 2, 3}}},
	} {
		r := ask(q.c, q.a)
		for at, l := range r.lists() {
			if r.errors[at] == api.OK {
				continue
			}
			seen |= 1 << at
			if len(l) != 0 {
				t.Errorf("%d: %+v", i, r)
			}
		}
	}
	if seen != 127 {
		t.Errorf("errors of %b only", seen)
	}
}

// P10.2
func TestLost(t *testing.T) {
	for i, q := range []struct {
		last    int
		numbers []int
		want    []int
	}{
		{0, nil, nil},
		{1, nil, []int{1}},
		{1, []int{1}, nil},
		{2, []int{1}, []int{2}},
		{2, []int{2}, []int{1}},
		{3, []int{1, 3}, []int{2}},
		{3, []int{2}, []int{1, 3}},
		{6, []int{1, 2, 3, 4, 5, 6}, nil},
		{7, []int{1, 2, 3, 4, 5, 6}, []int{7}},
		{9, []int{2, 3, 5, 6, 8, 9}, []int{1, 4, 7}},
		{30, []int{1, 5, 10, 20, 29, 30}, []int{2, 3, 4, 6, 7, 8, 9, 11, 12, 13, 14, 15, 16, 17, 18, 19, 21, 22, 23, 24, 25, 26, 27, 28}},
	} {
		c := api.ChChest{Words: 1, Facts: 1, Last: q.last}
		for _, n := range q.numbers {
			c.Copies = append(c.Copies, copied(n, 0, 0, 0))
		}
		if l := must(t)(chest.Lost(c)); !slices.Equal(l, q.want) {
			t.Errorf("%d: Lost = %v", i, l)
		}
	}
}

// P10.3
func TestFind(t *testing.T) {
	c := worded([]int{3, 5}, 1, 3, 31, 3, 0, 28)
	both := cloned(c)
	both.Copies[1].May, both.Copies[3].May, both.Copies[4].May = 3, 3, 0
	for i, q := range []struct {
		c      api.ChChest
		person int
		words  []int
		want   []int
	}{
		{worded(nil), ana, nil, nil},
		{worded(nil), ana, []int{0, 4}, nil},
		{c, ana, nil, []int{0, 1, 2, 4}},
		{c, ana, []int{0}, []int{0, 1, 2}},
		{c, ana, []int{1}, []int{1, 2}},
		{c, ana, []int{0, 1}, []int{1, 2}},
		{c, ana, []int{2}, []int{2}},
		{c, ana, []int{0, 1, 2, 3, 4}, []int{2}},
		{c, ben, nil, []int{3, 5}},
		{c, ben, []int{0}, []int{3}},
		{c, ben, []int{0, 1}, []int{3}},
		{c, ben, []int{4}, []int{5}},
		{c, ben, []int{2, 3, 4}, []int{5}},
		{c, ben, []int{0, 2}, nil},
		{c, ben, []int{0, 1, 2, 3, 4}, nil},
		{both, ana, nil, []int{0, 1, 2, 3}},
		{both, ben, nil, []int{1, 3, 5}},
		{both, ana, []int{1}, []int{1, 2, 3}},
		{both, ben, []int{0, 1}, []int{1, 3}},
	} {
		if l := must(t)(chest.Find(q.c, q.person, q.words)); !slices.Equal(l, q.want) {
			t.Errorf("%d: Find = %v", i, l)
		}
	}
}

// P10.4
func TestKey(t *testing.T) {
	for i, q := range []struct {
		c     api.ChChest
		want  []int
		found bool
	}{
		// the copy with the number 1, which ana may see
		{worded(nil, 0), nil, true},
		{worded(nil, 31), nil, true},
		{worded([]int{1, 2}, 31, 31, 31), nil, true},
		{worded(nil, 0, 0), nil, false},
		{worded(nil, 0, 31), nil, false},
		{worded(nil, 31, 0), []int{0}, true},
		{worded(nil, 30, 1), []int{1}, true},
		{worded(nil, 31, 31), nil, false},
		{worded(nil, 15, 31), nil, false},
		{worded(nil, 31, 15), []int{4}, true},
		{worded(nil, 31, 27), []int{2}, true},
		{worded(nil, 3, 1, 2), []int{0, 1}, true},
		{worded(nil, 7, 3, 5), []int{1, 2}, true},
		{worded(nil, 7, 3, 6), []int{0, 2}, true},
		{worded(nil, 7, 3, 6, 5), []int{0, 1, 2}, true},
		{worded(nil, 31, 15, 23, 27, 29, 30), []int{0, 1, 2, 3, 4}, true},
		{worded([]int{5}, 31, 15, 23, 27, 29, 30), []int{1, 2, 3, 4}, true},
		{worded([]int{1}, 31, 15, 23, 27, 29, 30), []int{0, 1, 2, 3}, true},
		// the fewest, and the first ones of as many
		{worded(nil, 31, 1, 2, 4), []int{3}, true},
		{worded(nil, 31, 9, 18, 4), []int{0, 1}, true},
		{worded(nil, 31, 11, 18, 20), []int{0, 2}, true},
		{worded(nil, 31, 15, 18, 20), []int{0, 4}, true},
		{worded(nil, 30, 14, 18, 20), []int{3, 4}, true},
		{worded(nil, 30, 7, 18, 20, 11), []int{2, 3}, true},
		{worded(nil, 30, 14, 18, 20, 24), []int{1, 2, 4}, true},
		{worded(nil, 30, 30), nil, false},
		// words that this copy does not have are of no use
		{worded(nil, 5, 7), nil, false},
		{worded(nil, 5, 7, 1), nil, false},
		{worded([]int{1}, 5, 7, 1), []int{2}, true},
	} {
		if l, found := orNone(t)(chest.Key(q.c, ana, 1)); !slices.Equal(l, q.want) || found != q.found {
			t.Errorf("%d: Key = %v, %t", i, l, found)
		}
	}
	// by its number, not by its index
	c := worded([]int{0}, 1, 1, 2, 3, 4)
	c.Copies[3].Number, c.Copies[4].Number = 20, 30
	for number, want := range map[int][]int{3: nil, 20: {0, 1}, 30: {2}} {
		if l, found := orNone(t)(chest.Key(c, ana, number)); !slices.Equal(l, want) || found != (number > 3) {
			t.Errorf("Key of %d = %v, %t", number, l, found)
		}
	}
	if l := must(t)(chest.Key(c, ben, 1)); len(l) != 0 {
		t.Errorf("Key = %v", l)
	}
}

// P10.5
func TestKnows(t *testing.T) {
	for i, q := range []struct {
		c      api.ChChest
		copies []int
		want   []int
	}{
		{telling(nil), nil, nil},
		{telling(nil, 63), nil, nil},
		{telling(nil, 63), []int{0}, []int{0, 1, 2, 3, 4, 5}},
		{telling(nil, 1, 4, 8), []int{0, 2}, []int{0, 3}},
		{telling(nil, 1, 4, 8), []int{1}, []int{2}},
		{telling(nil, 0, 32), []int{0}, nil},
		{telling(nil, 0, 32), []int{0, 1}, []int{5}},
		{telling(nil, 3, 6), []int{0, 1}, []int{0, 1, 2}},
		// no rule tells anything of nothing
		{telling(chain(), 1), nil, nil},
		{telling([]api.ChRule{rule(1, 1)}, 1, 4), []int{0}, []int{0, 1}},
		{telling([]api.ChRule{rule(1, 1)}, 1, 4), []int{1}, []int{2}},
		// all facts of a rule are needed, from whatever copies
		{telling([]api.ChRule{rule(5, 1)}, 1, 4), []int{0}, []int{0}},
		{telling([]api.ChRule{rule(5, 1)}, 1, 4), []int{1}, []int{2}},
		{telling([]api.ChRule{rule(5, 1)}, 1, 4), []int{0, 1}, []int{0, 1, 2}},
		{telling([]api.ChRule{rule(21, 5)}, 1, 20, 5, 17), []int{0, 2, 3}, []int{0, 2, 4, 5}},
		{telling([]api.ChRule{rule(31, 5)}, 15, 0), []int{0, 1}, []int{0, 1, 2, 3}},
		// a rule tells what is known, or the fact of which it needs to know
		{telling([]api.ChRule{rule(3, 0)}, 3), []int{0}, []int{0, 1}},
		{telling([]api.ChRule{rule(3, 0)}, 2), []int{0}, []int{1}},
		// rules add to what rules add, in any order
		{telling(chain(), 16), []int{0}, []int{0, 1, 2, 3, 4}},
		{telling(chain(), 8), []int{0}, []int{0, 1, 2, 3}},
		{telling([]api.ChRule{rule(16, 3), rule(8, 2), rule(4, 1), rule(2, 0)}, 16), []int{0}, []int{0, 1, 2, 3, 4}},
		{telling([]api.ChRule{rule(2, 2), rule(1, 1), rule(4, 0)}, 4), []int{0}, []int{0, 1, 2}},
		{telling([]api.ChRule{rule(9, 4), rule(6, 3), rule(1, 1), rule(16, 5)}, 1, 4), []int{0, 1}, []int{0, 1, 2, 3, 4, 5}},
		{telling([]api.ChRule{rule(9, 4), rule(6, 3), rule(1, 1), rule(16, 5)}, 1, 4), []int{0}, []int{0, 1}},
	} {
		if l := must(t)(chest.Knows(q.c, q.copies)); !slices.Equal(l, q.want) {
			t.Errorf("%d: Knows = %v", i, l)
		}
	}
}

// P10.5
func TestWhy(t *testing.T) {
	pair := []api.ChRule{rule(3, 5)}
	either := []api.ChRule{rule(3, 5), rule(12, 5)}
	for i, q := range []struct {
		c      api.ChChest
		copies []int
		fact   int
		want   []int
		found  bool
	}{
		{telling(nil, 1), []int{0}, 0, []int{0}, true},
		{telling(nil, 1), []int{0}, 1, nil, false},
		{telling(nil, 1), nil, 0, nil, false},
		{telling(nil, 1, 1, 1), []int{0, 1, 2}, 0, []int{0}, true},
		{telling(nil, 1, 1, 1), []int{1, 2}, 0, []int{1}, true},
		{telling(nil, 1, 2, 1), []int{1, 2}, 0, []int{2}, true},
		{telling(nil, 1, 2, 2), []int{1, 2}, 0, nil, false},
		{telling(pair, 1, 2), []int{0, 1}, 5, []int{0, 1}, true},
		{telling(pair, 1, 2), []int{0}, 5, nil, false},
		{telling(pair, 1, 2), []int{1}, 5, nil, false},
		{telling(pair, 1, 4, 2, 2), []int{0, 1, 2, 3}, 5, []int{0, 2}, true},
		{telling(pair, 1, 4, 2, 2), []int{0, 1, 3}, 5, []int{0, 3}, true},
		{telling(pair, 1, 2, 1, 2), []int{1, 2, 3}, 5, []int{1, 2}, true},
		{telling(pair, 1, 2, 3), []int{0, 1, 2}, 5, []int{2}, true},
		{telling(pair, 1, 2, 3, 32), []int{0, 1, 3}, 5, []int{3}, true},
		{telling(either, 4, 1, 2, 8), []int{0, 1, 2, 3}, 5, []int{0, 3}, true},
		{telling(either, 4, 1, 2, 8), []int{0, 1, 2}, 5, []int{1, 2}, true},
		{telling(either, 4, 1, 8, 2), []int{1, 2}, 5, nil, false},
		{telling(chain(), 32, 16, 8, 2), []int{0, 1, 2}, 0, []int{1}, true},
		{telling([]api.ChRule{rule(31, 5)}, 1, 2, 4, 8, 16, 32), []int{0, 1, 2, 3, 4}, 5, []int{0, 1, 2, 3, 4}, true},
		{telling([]api.ChRule{rule(31, 5)}, 1, 2, 4, 8, 16, 32), []int{0, 1, 2, 3, 4, 5}, 5, []int{5}, true},
		{telling([]api.ChRule{rule(31, 5)}, 1, 2, 12, 8, 16, 1), []int{0, 1, 2, 3, 4, 5}, 5, []int{0, 1, 2, 4}, true},
	} {
		if l, found := orNone(t)(chest.Why(q.c, q.copies, q.fact)); !slices.Equal(l, q.want) || found != q.found {
			t.Errorf("%d: Why = %v, %t", i, l, found)
		}
	}
}

// P10.6
func TestLock(t *testing.T) {
	pair := []api.ChRule{rule(3, 5)}
	for i, q := range []struct {
		c      api.ChChest
		person int
		fact   int
		want   []int
	}{
		{telling(nil), ana, 0, nil},
		{telling(nil, 2), ana, 0, nil},
		{telling(nil, 1), ana, 0, []int{0}},
		{telling(nil, 1), ben, 0, nil},
		{telling(nil, 1), cora, 0, nil},
		{telling(nil, 1, 1, 2, 1), ana, 0, []int{0, 1, 3}},
		{telling(nil, 1, 1, 2, 1), cora, 0, []int{1, 3}},
		{telling(nil, 1, 1, 1, 1, 1, 1), ana, 0, []int{0, 1, 2, 3, 4, 5}},
		{telling(pair, 1, 2), ana, 5, []int{0}},
		{telling(pair, 1, 2), cora, 5, nil},
		{telling(pair, 1, 2, 1), ana, 5, []int{1}},
		{telling(pair, 1, 2, 1), cora, 5, []int{1}},
		{telling(pair, 2, 2, 1), ana, 5, []int{2}},
		{telling(pair, 2, 2, 1, 1), ana, 5, []int{0, 1}},
		{telling(pair, 2, 1, 2, 1), ana, 5, []int{0, 2}},
		{telling(pair, 2, 1, 2, 1), cora, 5, []int{2}},
		{telling(pair, 1, 2, 3), ana, 5, []int{0, 2}},
		{telling(pair, 1, 2, 3), cora, 5, []int{2}},
		{telling(pair, 1, 2, 32), ana, 5, []int{0, 2}},
		{telling(pair, 4, 2, 32, 1, 3), ana, 5, []int{1, 2, 4}},
		{telling(pair, 1, 2, 32, 1, 2), ana, 5, []int{0, 2, 3}},
		{telling(append(chain(), rule(1, 5))[1:], 16, 1, 2), ana, 5, []int{1}},
		{telling(chain(), 16, 1, 2), ana, 0, []int{0, 1, 2}},
		{telling(chain(), 16, 1, 2), ana, 2, []int{0}},
		{telling(chain(), 16, 1, 2), cora, 0, []int{1, 2}},
	} {
		if l := must(t)(chest.Lock(q.c, q.person, q.fact)); !slices.Equal(l, q.want) {
			t.Errorf("%d: Lock = %v", i, l)
		}
	}
}

// P10.6
func TestLeast(t *testing.T) {
	for i, q := range []struct {
		c      api.ChChest
		person int
		want   []int
	}{
		{telling(nil), ana, nil},
		{telling(nil, 0, 0), ana, nil},
		{telling(nil, 1), ana, []int{0}},
		{telling(nil, 1), ben, nil},
		{telling(nil, 1), cora, nil},
		{telling(nil, 0, 1), ana, []int{1}},
		{telling(nil, 1, 1, 1), ana, []int{0}},
		{telling(nil, 1, 1, 1), cora, []int{1}},
		{telling(nil, 1, 2, 3), ana, []int{2}},
		{telling(nil, 1, 2, 4), ana, []int{0, 1, 2}},
		{telling(nil, 1, 2, 4, 6), ana, []int{0, 3}},
		{telling(nil, 3, 6, 5), ana, []int{0, 1}},
		{telling(nil, 3, 3, 12, 6, 9), ana, []int{0, 2}},
		{telling(nil, 3, 3, 12, 6, 9), cora, []int{1, 2}},
		{telling(nil, 1, 2, 4, 8, 16, 32), ana, []int{0, 1, 2, 3, 4, 5}},
		{telling(nil, 1, 2, 4, 8, 16, 32), cora, []int{1, 2, 3, 4, 5}},
		// what rules add need not be told by a copy
		{telling([]api.ChRule{rule(3, 5)}, 32, 1, 2), ana, []int{1, 2}},
		{telling([]api.ChRule{rule(3, 5)}, 35, 1, 2), ana, []int{0}},
		{telling([]api.ChRule{rule(3, 5)}, 35, 1, 2), cora, []int{1, 2}},
		{telling(chain(), 1, 2, 4, 8), ana, []int{3}},
		{telling(chain(), 33, 2, 4, 8, 16, 24), ana, []int{0, 4}},
		{telling([]api.ChRule{rule(1, 1), rule(2, 0)}, 1, 2), ana, []int{0}},
	} {
		if l := must(t)(chest.Least(q.c, q.person)); !slices.Equal(l, q.want) {
			t.Errorf("%d: Least = %v", i, l)
		}
	}
}

// the chapter's examples
func TestExamples(t *testing.T) {
	c := example()
	const ok, arg, down = api.OK, api.ErrArg, api.ErrDown
	for i, q := range []struct {
		call func() ([]int, api.Errno)
		want []int
		e    api.Errno
	}{
		{func() ([]int, api.Errno) { return chest.Lost(c) }, []int{2, 5}, ok},
		{func() ([]int, api.Errno) { return chest.Find(c, ana, []int{0}) }, []int{0, 1}, ok},
		{func() ([]int, api.Errno) { return chest.Find(c, ben, []int{0}) }, []int{0, 1, 3}, ok},
		{func() ([]int, api.Errno) { return chest.Find(c, ana, nil) }, []int{0, 1, 2}, ok},
		{func() ([]int, api.Errno) { return chest.Key(c, ana, 1) }, []int{0, 1}, ok},
		{func() ([]int, api.Errno) { return chest.Key(c, ana, 4) }, []int{2}, ok},
		{func() ([]int, api.Errno) { return chest.Key(c, ana, 3) }, nil, down},
		{func() ([]int, api.Errno) { return chest.Key(c, ben, 1) }, nil, down},
		{func() ([]int, api.Errno) { return chest.Key(c, ben, 4) }, nil, arg},
		{func() ([]int, api.Errno) { return chest.Knows(c, []int{0, 1}) }, []int{0, 1, 3}, ok},
		{func() ([]int, api.Errno) { return chest.Knows(c, []int{2}) }, []int{2}, ok},
		{func() ([]int, api.Errno) { return chest.Why(c, []int{0, 1, 2}, 3) }, []int{0, 1}, ok},
		{func() ([]int, api.Errno) { return chest.Why(c, []int{2}, 3) }, nil, down},
		{func() ([]int, api.Errno) { return chest.Lock(c, ana, 3) }, []int{0}, ok},
		{func() ([]int, api.Errno) { return chest.Lock(c, ben, 1) }, []int{1, 3}, ok},
		{func() ([]int, api.Errno) { return chest.Lock(c, ben, 3) }, []int{0}, ok},
		{func() ([]int, api.Errno) { return chest.Least(c, ana) }, []int{0, 1, 2}, ok},
		{func() ([]int, api.Errno) { return chest.Least(c, ben) }, []int{0, 3}, ok},
	} {
		if l, e := q.call(); !slices.Equal(l, q.want) || e != q.e {
			t.Errorf("%d: %v, %d", i, l, e)
		}
	}
}
