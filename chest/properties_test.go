package chest_test

import (
	"math"
	"math/rand/v2"
	"slices"
	"testing"

	"escribano/api"
	"escribano/chest"
)

// P10.2, P10.3, P10.5: what is found and told is what the tests hold for it
func TestKnownTold(t *testing.T) {
	found, none, added, lost := 0, 0, 0, 0
	eachChest(t, func(t *testing.T, d *rand.Rand, c api.ChChest) {
		var want []int
		for number := 1; number <= c.Last; number++ {
			if !slices.ContainsFunc(c.Copies, func(o api.ChCopy) bool { return o.Number == number }) {
				want = append(want, number)
			}
		}
		if l := must(t)(chest.Lost(c)); !slices.Equal(l, want) {
			t.Errorf("Lost = %v, not %v", l, want)
		}
		lost += len(want)
		for person := range c.People {
			words := someOf(d, c.Words)
			want := knownFind(c, person, words)
			if l := must(t)(chest.Find(c, person, words)); !slices.Equal(l, want) {
				t.Errorf("Find of %d, %v = %v, not %v", person, words, l, want)
			}
			if len(want) == 0 {
				none++
			} else if len(want) < len(c.Copies) {
				found++
			}
		}
		for range 3 {
			copies := someOf(d, len(c.Copies))
			want := knownTold(c, copies)
			if l := must(t)(chest.Knows(c, copies)); !slices.Equal(l, want) {
				t.Errorf("Knows of %v = %v, not %v", copies, l, want)
			}
			if len(want) > len(factsOf(c, copies)) {
				added++
			}
		}
	})
	if found < 500 || none < 500 || added < 500 || lost < 5000 {
		t.Errorf("only %d searches find some copies, %d none, rules add to %d lists, %d numbers are lost", found, none, added, lost)
	}
}

// P10.4: the keys are what the tests hold for them
func TestKnownKey(t *testing.T) {
	few, several, nothing, none := 0, 0, 0, 0
	eachPerson(t, func(t *testing.T, d *rand.Rand, c api.ChChest, person int) {
		for _, at := range persons(c, person) {
			o := c.Copies[at]
			want, are := firstOf(listed(o.Words), func(words []int) bool { return len(knownFind(c, person, words)) == 1 })
			l, found := orNone(t)(chest.Key(c, person, o.Number))
			if !slices.Equal(l, want) || found != are {
				t.Errorf("Key of %d = %v, %t, not %v, %t", o.Number, l, found, want, are)
			}
			switch {
			case !are:
				none++
			case len(want) == 0:
				nothing++
			case len(want) == 1:
				few++
			default:
				several++
			}
		}
	})
	if few < 500 || several < 300 || nothing < 300 || none < 500 {
		t.Errorf("only %d keys of a word, %d of several, %d of none, %d copies without a key", few, several, nothing, none)
	}
}

// P10.5, P10.6: the fewest copies are what the tests hold for them
func TestKnownFewest(t *testing.T) {
	why, lock, least, untold := map[int]int{}, map[int]int{}, map[int]int{}, 0
	eachPerson(t, func(t *testing.T, d *rand.Rand, c api.ChChest, person int) {
		fact, copies, own := anyFact(d, c), someOf(d, len(c.Copies)), persons(c, person)
		tells := func(l []int) bool { return slices.Contains(knownTold(c, l), fact) }
		want, are := firstOf(copies, tells)
		l, found := orNone(t)(chest.Why(c, copies, fact))
		if !slices.Equal(l, want) || found != are {
			t.Errorf("Why of %v, %d = %v, %t, not %v, %t", copies, fact, l, found, want, are)
		}
		if are {
			why[len(want)]++
		} else {
			untold++
		}
		want, _ = firstOf(own, func(l []int) bool { return !tells(without(own, l)) })
		if l := must(t)(chest.Lock(c, person, fact)); !slices.Equal(l, want) {
			t.Errorf("Lock of %d = %v, not %v", fact, l, want)
		}
		lock[len(want)]++
		all := knownTold(c, own)
		want, _ = firstOf(own, func(l []int) bool { return slices.Equal(knownTold(c, l), all) })
		if l := must(t)(chest.Least(c, person)); !slices.Equal(l, want) {
			t.Errorf("Least = %v, not %v", l, want)
		}
		least[len(want)]++
	})
	if why[1] < 500 || why[2] < 100 || untold < 500 || lock[0] < 500 || lock[1] < 500 || lock[2] < 300 || least[0] < 100 || least[1] < 300 || least[2] < 500 || least[3] < 100 {
		t.Errorf("only %v facts with so few copies, %d without, %v with so few to lock, %v people with so few", why, untold, lock, least)
	}
}

// P10.7, P7
func TestFound(t *testing.T) {
	found, hides, lacks := 0, 0, 0
	eachPerson(t, func(t *testing.T, d *rand.Rand, c api.ChChest, person int) {
		words := someOf(d, c.Words)
		l := must(t)(chest.Find(c, person, words))
		if !slices.IsSorted(l) {
			t.Errorf("Find = %v", l)
		}
		for at, o := range c.Copies {
			hasWords, mayBeSeen := containsAll(listed(o.Words), words), has(o.May, person)
			if slices.Contains(l, at) != (hasWords && mayBeSeen) {
				t.Errorf("Find of %v = %v", words, l)
			}
			switch {
			case hasWords && mayBeSeen:
				found++
			case hasWords:
				hides++
			case mayBeSeen:
				lacks++
			}
		}
		if len(l) > len(c.Copies) || !containsAll(upTo(len(c.Copies)), l) {
			t.Errorf("Find = %v", l)
		}
	})
	if found < 1000 || hides < 500 || lacks < 1000 {
		t.Errorf("only %d copies found, %d that may not be, %d without the words", found, hides, lacks)
	}
}

// P10.8, P7
func TestKeys(t *testing.T) {
	keys, none := 0, 0
	eachPerson(t, func(t *testing.T, d *rand.Rand, c api.ChChest, person int) {
		for _, at := range persons(c, person) {
			alone := func(words []int) bool {
				return slices.Equal(must(t)(chest.Find(c, person, words)), []int{at})
			}
			key, found := orNone(t)(chest.Key(c, person, c.Copies[at].Number))
			if found && !alone(key) {
				t.Errorf("Key of %d = %v", at, key)
			}
			for _, words := range sublists(upTo(c.Words)) {
				if (!found || len(words) < len(key)) && alone(words) {
					t.Errorf("Key of %d = %v, %t, but %v is one", at, key, found, words)
				}
			}
			if found {
				keys++
			} else {
				none++
			}
		}
	})
	if keys < 1000 || none < 500 {
		t.Errorf("only %d keys, %d copies without", keys, none)
	}
}

// P10.9
func TestMore(t *testing.T) {
	fewer, more := 0, 0
	eachChest(t, func(t *testing.T, d *rand.Rand, c api.ChChest) {
		words := someOf(d, c.Words)
		all := slices.Compact(slices.Sorted(slices.Values(append(someOf(d, c.Words), words...))))
		for person := range c.People {
			was, is := must(t)(chest.Find(c, person, words)), must(t)(chest.Find(c, person, all))
			if !containsAll(was, is) {
				t.Errorf("Find of %v = %v, of %v = %v", words, was, all, is)
			}
			if len(is) < len(was) {
				fewer++
			}
		}
		copies := someOf(d, len(c.Copies))
		all = slices.Compact(slices.Sorted(slices.Values(append(someOf(d, len(c.Copies)), copies...))))
		was, is := must(t)(chest.Knows(c, copies)), must(t)(chest.Knows(c, all))
		if !containsAll(is, was) {
			t.Errorf("Knows of %v = %v, of %v = %v", copies, was, all, is)
		}
		if len(is) > len(was) {
			more++
		}
	})
	if fewer < 500 || more < 500 {
		t.Errorf("only %d searches with more words find fewer copies, %d lists of more copies tell more", fewer, more)
	}
}

// P10.10
func TestTold(t *testing.T) {
	added, others := 0, 0
	eachChest(t, func(t *testing.T, d *rand.Rand, c api.ChChest) {
		copies := someOf(d, len(c.Copies))
		l, own := must(t)(chest.Knows(c, copies)), factsOf(c, copies)
		if !containsAll(l, own) || !isKept(c, l) || !slices.IsSorted(l) {
			t.Errorf("Knows of %v = %v", copies, l)
		}
		if len(l) > len(own) {
			added++
		}
		for _, other := range sublists(upTo(c.Facts)) {
			if !containsAll(other, own) || !isKept(c, other) {
				continue
			}
			others++
			if !containsAll(other, l) {
				t.Errorf("Knows of %v = %v, but all is so of %v", copies, l, other)
			}
		}
	})
	if added < 300 || others < 5000 {
		t.Errorf("rules add to %d lists only, all is so of %d other ones", added, others)
	}
}

// P10.11, P7
func TestLocked(t *testing.T) {
	locked, free := 0, 0
	eachPerson(t, func(t *testing.T, d *rand.Rand, c api.ChChest, person int) {
		fact, own := anyFact(d, c), persons(c, person)
		l := must(t)(chest.Lock(c, person, fact))
		canTell := func(out []int) bool {
			h := hidden(c, person, out)
			return slices.Contains(must(t)(chest.Knows(h, persons(h, person))), fact)
		}
		if !containsAll(own, l) || !slices.IsSorted(l) || canTell(l) {
			t.Errorf("Lock of %d = %v", fact, l)
		}
		for _, out := range sublists(own) {
			if len(out) < len(l) && !canTell(out) {
				t.Errorf("Lock of %d = %v, but %v are enough", fact, l, out)
			}
		}
		if again := must(t)(chest.Lock(hidden(c, person, l), person, fact)); len(again) != 0 {
			t.Errorf("Lock of %d = %v, then %v", fact, l, again)
		}
		if len(l) > 0 {
			locked++
		} else {
			free++
		}
	})
	if locked < 1000 || free < 500 {
		t.Errorf("only %d facts are locked, %d need not be", locked, free)
	}
}

// P10.12
func TestFewestTell(t *testing.T) {
	told, untold := 0, 0
	eachChest(t, func(t *testing.T, d *rand.Rand, c api.ChChest) {
		fact, copies := anyFact(d, c), someOf(d, len(c.Copies))
		tells := func(l []int) bool { return slices.Contains(must(t)(chest.Knows(c, l)), fact) }
		l, found := orNone(t)(chest.Why(c, copies, fact))
		if found != tells(copies) {
			t.Errorf("Why of %v, %d = %v, %t", copies, fact, l, found)
		}
		if !found {
			untold++
			return
		}
		told++
		if !tells(l) || !containsAll(copies, l) || !slices.IsSorted(l) {
			t.Errorf("Why of %v, %d = %v", copies, fact, l)
		}
		for _, fewer := range sublists(copies) {
			if len(fewer) < len(l) && tells(fewer) {
				t.Errorf("Why of %v, %d = %v, but %v are enough", copies, fact, l, fewer)
			}
		}
	})
	if told < 500 || untold < 500 {
		t.Errorf("only %d facts can be told, %d cannot", told, untold)
	}
}

// P10.13
func TestLeastTell(t *testing.T) {
	fewer := 0
	eachPerson(t, func(t *testing.T, d *rand.Rand, c api.ChChest, person int) {
		own := persons(c, person)
		all, l := must(t)(chest.Knows(c, own)), must(t)(chest.Least(c, person))
		if !containsAll(own, l) || !slices.IsSorted(l) || !slices.Equal(must(t)(chest.Knows(c, l)), all) {
			t.Errorf("Least = %v", l)
		}
		for _, few := range sublists(own) {
			if len(few) < len(l) && len(must(t)(chest.Knows(c, few))) >= len(all) {
				t.Errorf("Least = %v, but %v are enough", l, few)
			}
		}
		if len(l) < len(own) {
			fewer++
		}
	})
	if fewer < 1000 {
		t.Errorf("only %d people need not see all of their copies", fewer)
	}
}

// P10.14
func TestNumbers(t *testing.T) {
	filled := 0
	eachChest(t, func(t *testing.T, d *rand.Rand, c api.ChChest) {
		lost := must(t)(chest.Lost(c))
		if len(lost)+len(c.Copies) != c.Last {
			t.Errorf("Lost = %v", lost)
		}
		if len(lost) == 0 || len(c.Copies) == api.MaxChCopies {
			return
		}
		at := d.IntN(len(lost))
		n := cloned(c)
		n.Copies = append(n.Copies, copied(lost[at], anyBits(d, c.Words), anyBits(d, c.Facts), anyBits(d, len(c.People))))
		slices.SortFunc(n.Copies, func(a, b api.ChCopy) int { return a.Number - b.Number })
		want := slices.Delete(slices.Clone(lost), at, at+1)
		if l := must(t)(chest.Lost(n)); !slices.Equal(l, want) {
			t.Errorf("Lost = %v, then, with %d, %v", lost, lost[at], l)
		}
		filled++
	})
	if filled < 1000 {
		t.Errorf("only %d lost numbers were filled", filled)
	}
}

// P10.15
func TestWhoMay(t *testing.T) {
	found, locked := 0, 0
	eachPerson(t, func(t *testing.T, d *rand.Rand, c api.ChChest, person int) {
		n, words := cloned(c), someOf(d, c.Words)
		for at := range n.Copies {
			n.Copies[at].May |= oneOf(d, 0, 1<<person)
		}
		was, is := must(t)(chest.Find(c, person, words)), must(t)(chest.Find(n, person, words))
		if !containsAll(is, was) || len(is) < len(was) {
			t.Errorf("Find of %v = %v, then %v in %+v", words, was, is, n)
		}
		if len(is) > len(was) {
			found++
		}
		for fact := range c.Facts {
			few, more := must(t)(chest.Lock(c, person, fact)), must(t)(chest.Lock(n, person, fact))
			if len(more) < len(few) {
				t.Errorf("Lock of %d = %v, then %v in %+v", fact, few, more, n)
			}
			if len(more) > len(few) {
				locked++
			}
		}
	})
	if found < 500 || locked < 500 {
		t.Errorf("only %d searches find more copies, %d facts need more locks", found, locked)
	}
}

// anyArguments returns arguments of a chest, which are mostly valid.
func anyArguments(d *rand.Rand, c api.ChChest) arguments {
	a := arguments{d.IntN(3), 1 + d.IntN(6), d.IntN(c.Facts), someOf(d, c.Words), someOf(d, len(c.Copies))}
	if len(c.Copies) > 0 {
		a.number = c.Copies[d.IntN(len(c.Copies))].Number
	}
	return a
}

// P10.16: arguments stay as they are, and what lies behind them too
func TestNotModified(t *testing.T) {
	eachChest(t, func(t *testing.T, d *rand.Rand, c api.ChChest) {
		people := append(slices.Clone(c.People), "?", "?")
		copies := append(slices.Clone(c.Copies), make([]api.ChCopy, 3)...)
		rules := append(slices.Clone(c.Rules), make([]api.ChRule, 3)...)
		c.People, c.Copies, c.Rules = people[:len(c.People)], copies[:len(c.Copies)], rules[:len(c.Rules)]
		a := anyArguments(d, c)
		words, some := append(slices.Clone(a.words), -7, -7), append(slices.Clone(a.copies), -7, -7)
		a.words, a.copies = words[:len(a.words)], some[:len(a.copies)]
		was, wasWords, wasSome := cloned(c), slices.Clone(words), slices.Clone(some)
		first := ask(c, a)
		if !sameChest(c, was) || !slices.Equal(words, wasWords) || !slices.Equal(some, wasSome) ||
			slices.ContainsFunc(people[len(c.People):], func(s string) bool { return s != "?" }) ||
			slices.ContainsFunc(copies[len(c.Copies):], func(o api.ChCopy) bool { return o != api.ChCopy{} }) ||
			slices.ContainsFunc(rules[len(c.Rules):], func(r api.ChRule) bool { return r != api.ChRule{} }) {
			t.Error("an argument was modified")
		}
		again := ask(c, a)
		lists := again.lists()
		if again.errors != first.errors {
			t.Errorf("%+v, then %+v", first, again)
		}
		for at, l := range first.lists() {
			if !slices.Equal(l, lists[at]) {
				t.Errorf("%+v, then %+v", first, again)
			}
		}
	})
}

// P10.16: a result is new memory, and nothing is kept between calls
func TestNewMemory(t *testing.T) {
	c := api.ChChest{Words: 5, Facts: 6, People: []string{"ana"}, Last: 9}
	c.Copies = []api.ChCopy{copied(2, 31, 1, 1), copied(3, 14, 2, 1), copied(5, 18, 3, 1), copied(7, 25, 4, 1)}
	c.Rules = []api.ChRule{rule(6, 5)}
	a := arguments{ana, 2, 5, []int{1, 3}, []int{0, 1, 3}}
	once, twice := ask(c, a), ask(c, a)
	if once.errors != allErrors(api.OK) {
		t.Fatalf("%+v", once)
	}
	want := twice.lists()
	for i, l := range once.lists() {
		if len(l) < 2 && i != 5 {
			t.Errorf("%d: %v is short", i, l)
		}
		for at := range l {
			l[at] = 77
		}
		// what lies behind a list is not the memory of another one
		_ = append(l, 88)
		if slices.Contains(want[i], 77) || slices.Contains(want[i], 88) {
			t.Errorf("%d: memory is shared", i)
		}
	}
	if !slices.Equal(a.words, []int{1, 3}) || !slices.Equal(a.copies, []int{0, 1, 3}) {
		t.Errorf("memory of %+v is shared", a)
	}
	for i, l := range ask(c, a).lists() {
		if !slices.Equal(l, want[i]) {
			t.Errorf("%d: %v, then %v", i, want[i], l)
		}
	}
}

// wildInt returns a number, often one that is just at a limit or far beyond it.
func wildInt(d *rand.Rand) int {
	return oneOf(d, math.MinInt, -1<<32, -2, -1, 0, 1, 2, 3, 4, 5, 6, 7, 8, 29, 30, 31, 32, 63, 64, 1<<32, math.MaxInt-1, math.MaxInt)
}

// wildList returns a list of numbers that often is not ascending.
func wildList(d *rand.Rand) []int {
	l := make([]int, d.IntN(4))
	for at := range l {
		l[at] = oneOf(d, at, d.IntN(4), wildInt(d))
	}
	return l
}

// wildChest returns a chest with things in it that are not valid.
func wildChest(d *rand.Rand) api.ChChest {
	c := anyChest(d)
	name := oneOf(d, "", "a", "ana", "x.1", "X", "\xff", "0")
	for range d.IntN(3) {
		switch d.IntN(8) {
		case 0:
			c.Words = wildInt(d)
		case 1:
			c.Facts = wildInt(d)
		case 2:
			c.Last = wildInt(d)
		case 3:
			c.People = append(slices.Clone(c.People), name)
		case 4:
			c.People = c.People[:d.IntN(len(c.People)+1)]
		case 5:
			c.Copies = append(c.Copies, copied(wildInt(d), wildInt(d), wildInt(d), wildInt(d)))
		case 6:
			for at := range c.Copies {
				c.Copies[at].Number -= d.IntN(2)
			}
		case 7:
			c.Rules = append(c.Rules, rule(wildInt(d), wildInt(d)))
		}
	}
	return c
}

// P1, P10.16: any arguments are accepted, and all functions tell the same error of a chest
func TestAnyArguments(t *testing.T) {
	wrong, right := 0, 0
	for seed := range uint64(4000) {
		d := dice(seed)
		c := wildChest(d)
		part, at, e := chest.Check(c)
		a := arguments{oneOf(d, ana, wildInt(d)), wildInt(d), oneOf(d, 0, wildInt(d)), wildList(d), wildList(d)}
		got := ask(c, a).errors
		if e != api.OK {
			wrong++
			if part == 0 || got != allErrors(e) {
				t.Errorf("%+v: Check = %d, %d, %d, errors %v", c, part, at, e, got)
			}
			continue
		}
		right++
		if part != 0 || at != 0 || got[0] != api.OK || got[6] != api.OK && got[6] != api.ErrNone || got[6] != api.OK && (got[1] != got[6] || got[2] != got[6] || got[5] != got[6]) {
			t.Errorf("%+v: Check = %d, %d, errors %v", c, part, at, got)
		}
	}
	if wrong < 1000 || right < 1000 {
		t.Errorf("only %d chests are not valid, %d are", wrong, right)
	}
	huge := []api.ChChest{{People: make([]string, 1<<20)}, {Copies: make([]api.ChCopy, 1<<20)}, {Rules: make([]api.ChRule, 1<<20)}}
	for i, c := range huge {
		c.Words, c.Facts = 1, 1
		if part, at, e := chest.Check(c); part != i+2 || at != 0 || e != api.ErrLong {
			t.Errorf("%d: Check = %d, %d, %d", i, part, at, e)
		}
	}
	many := make([]int, 1<<20)
	if r := ask(example(), arguments{ana, 1, 0, many, many}); r.errors != [7]api.Errno{1: api.ErrArg, 3: api.ErrArg, 4: api.ErrArg} {
		t.Errorf("errors %v", r.errors)
	}
	many[1<<20-1] = 6
	if r := ask(example(), arguments{ana, 1, 0, many, many}); r.errors != [7]api.Errno{1: api.ErrNone, 3: api.ErrNone, 4: api.ErrNone} {
		t.Errorf("errors %v", r.errors)
	}
}

// P1: the chests for which there is most to do
func TestMostWork(t *testing.T) {
	c := telling([]api.ChRule{rule(62, 0), rule(61, 1), rule(59, 2), rule(55, 3)}, 1, 2, 4, 8, 16, 32)
	c.Words = api.MaxChWords
	for at, words := range []int{31, 15, 23, 27, 29, 30} {
		c.Copies[at].Words = words
	}
	r := ask(c, arguments{ana, 1, 0, upTo(5), upTo(6)})
	if !slices.Equal(r.key, upTo(5)) || !slices.Equal(r.knows, upTo(6)) || !slices.Equal(r.why, []int{0}) ||
		!slices.Equal(r.lock, []int{0, 1}) || !slices.Equal(r.least, []int{0, 1, 2, 4, 5}) || r.errors != allErrors(api.OK) {
		t.Errorf("%+v", r)
	}
}
