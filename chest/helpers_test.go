package chest_test

import (
	"math/rand/v2"
	"slices"
	"testing"

	"escribano/api"
	"escribano/chest"
)

// Who people are in the tests.
const (
	ana = iota
	ben
	cora
)

// copied is a copy, and rule a rule.
func copied(number, words, facts, may int) api.ChCopy {
	return api.ChCopy{Number: number, Words: words, Facts: facts, May: may}
}

func rule(ifs, then int) api.ChRule { return api.ChRule{If: ifs, Then: then} }

// example is C of the document's examples.
func example() api.ChChest {
	return api.ChChest{
		Words: 3, Facts: 4, People: []string{"ana", "ben"}, Last: 6,
		Copies: []api.ChCopy{copied(1, 3, 1, 3), copied(3, 1, 2, 3), copied(4, 6, 4, 1), copied(6, 3, 6, 2)},
		Rules:  []api.ChRule{rule(3, 3)},
	}
}

// worded is a chest with copies that have these words, which ana may see; the copies of a list are ben's alone.
func worded(bens []int, words ...int) api.ChChest {
	c := api.ChChest{Words: api.MaxChWords, Facts: 1, People: []string{"ana", "ben"}, Last: api.MaxChNumber}
	for at, w := range words {
		may := 1
		if slices.Contains(bens, at) {
			may = 2
		}
		c.Copies = append(c.Copies, copied(at+1, w, 0, may))
	}
	return c
}

// telling is a chest with copies that tell these facts, all of which ana may see, ben none, and cora all but the first one.
func telling(rules []api.ChRule, facts ...int) api.ChChest {
	c := api.ChChest{Words: 1, Facts: api.MaxChFacts, People: []string{"ana", "ben", "cora"}, Last: api.MaxChNumber, Rules: rules}
	for at, f := range facts {
		may := 5
		if at == 0 {
			may = 1
		}
		c.Copies = append(c.Copies, copied(at+1, 0, f, may))
	}
	return c
}

// chain is rules by which from each fact that one ahead of it follows: it takes as many rounds as there are rules.
func chain() []api.ChRule { return []api.ChRule{rule(2, 0), rule(4, 1), rule(8, 2), rule(16, 3)} }

// cloned is a chest that shares no memory with c; sameChest reports whether two chests are equal.
func cloned(c api.ChChest) api.ChChest {
	c.People, c.Copies, c.Rules = slices.Clone(c.People), slices.Clone(c.Copies), slices.Clone(c.Rules)
	return c
}

func sameChest(a, b api.ChChest) bool {
	return a.Words == b.Words && a.Facts == b.Facts && a.Last == b.Last &&
		slices.Equal(a.People, b.People) && slices.Equal(a.Copies, b.Copies) && slices.Equal(a.Rules, b.Rules)
}

// hidden is a chest in which a person may not see some copies.
func hidden(c api.ChChest, person int, copies []int) api.ChChest {
	c.Copies = slices.Clone(c.Copies)
	for _, at := range copies {
		c.Copies[at].May &^= 1 << person
	}
	return c
}

// arguments are what functions are given beside a chest.
type arguments struct {
	person, number, fact int
	words, copies        []int
}

// answers are what all functions but Check return.
type answers struct {
	lost, find, key, knows, why, lock, least []int
	errors                                   [7]api.Errno
}

// ask asks all functions but Check.
func ask(c api.ChChest, a arguments) answers {
	var r answers
	r.lost, r.errors[0] = chest.Lost(c)
	r.find, r.errors[1] = chest.Find(c, a.person, a.words)
	r.key, r.errors[2] = chest.Key(c, a.person, a.number)
	r.knows, r.errors[3] = chest.Knows(c, a.copies)
	r.why, r.errors[4] = chest.Why(c, a.copies, a.fact)
	r.lock, r.errors[5] = chest.Lock(c, a.person, a.fact)
	r.least, r.errors[6] = chest.Least(c, a.person)
	return r
}

// lists returns all lists of the answers, in the order of the errors.
func (r answers) lists() [7][]int {
	return [7][]int{r.lost, r.find, r.key, r.knows, r.why, r.lock, r.least}
}

// allErrors is an error of all functions but Check.
func allErrors(e api.Errno) [7]api.Errno { return [7]api.Errno{e, e, e, e, e, e, e} }

// must returns the result of a call, which must have no error.
func must(t *testing.T) func(result []int, e api.Errno) []int {
	return func(result []int, e api.Errno) []int {
		t.Helper()
		if e != api.OK {
			t.Fatalf("error %d", e)
		}
		return result
	}
}

// orNone returns the result of a call, and whether there is one: there is none with ErrDown.
func orNone(t *testing.T) func(result []int, e api.Errno) ([]int, bool) {
	return func(result []int, e api.Errno) ([]int, bool) {
		t.Helper()
		switch {
		case e == api.ErrDown && len(result) == 0:
			return nil, false
		case e != api.OK:
			t.Fatalf("%v, error %d", result, e)
		}
		return result, true
	}
}

// has reports whether a number is one of those that bits tell.
func has(bits, number int) bool { return bits>>number%2 == 1 }

// listed returns the numbers that bits tell.
func listed(bits int) []int {
	var l []int
	for number := range 8 {
		if has(bits, number) {
			l = append(l, number)
		}
	}
	return l
}

// containsAll reports whether all numbers of a list are in another one.
func containsAll(list, of []int) bool {
	return !slices.ContainsFunc(of, func(n int) bool { return !slices.Contains(list, n) })
}

// without returns a list without the numbers of another one.
func without(list, out []int) []int {
	return slices.DeleteFunc(slices.Clone(list), func(n int) bool { return slices.Contains(out, n) })
}

// upTo returns the numbers below many.
func upTo(many int) []int {
	l := make([]int, many)
	for at := range l {
		l[at] = at
	}
	return l
}

// sublists returns all lists of some numbers of a list, the shorter ones first, then number by number.
func sublists(list []int) [][]int {
	all := [][]int{nil}
	for _, number := range list {
		for _, l := range all {
			all = append(all, append(slices.Clone(l), number))
		}
	}
	slices.SortFunc(all, func(a, b []int) int {
		if len(a) != len(b) {
			return len(a) - len(b)
		}
		return slices.Compare(a, b)
	})
	return all
}

// firstOf returns the first of all lists of some numbers of which something is so, and whether there is one.
func firstOf(list []int, isSo func(l []int) bool) ([]int, bool) {
	for _, l := range sublists(list) {
		if isSo(l) {
			return l, true
		}
	}
	return nil, false
}

// persons returns the copies that a person may see.
func persons(c api.ChChest, person int) []int {
	var l []int
	for at, one := range c.Copies {
		if has(one.May, person) {
			l = append(l, at)
		}
	}
	return l
}

// knownFind returns what Find has to return.
func knownFind(c api.ChChest, person int, words []int) []int {
	return slices.DeleteFunc(persons(c, person), func(at int) bool { return !containsAll(listed(c.Copies[at].Words), words) })
}

// isKept reports whether rules add nothing to some facts.
func isKept(c api.ChChest, facts []int) bool {
	return !slices.ContainsFunc(c.Rules, func(r api.ChRule) bool {
		return containsAll(facts, listed(r.If)) && !slices.Contains(facts, r.Then)
	})
}

// factsOf returns the facts that some copies tell, without any rule.
func factsOf(c api.ChChest, copies []int) []int {
	all := 0
	for _, at := range copies {
		all |= c.Copies[at].Facts
	}
	return listed(all)
}

// knownTold returns what can be told from some copies: the fewest of all facts that have those of the copies, and to which no rule adds.
func knownTold(c api.ChChest, copies []int) []int {
	own := factsOf(c, copies)
	l, _ := firstOf(upTo(c.Facts), func(l []int) bool { return containsAll(l, own) && isKept(c, l) })
	return l
}

// dice returns numbers that are the same in each run.
func dice(seed uint64) *rand.Rand { return rand.New(rand.NewPCG(seed, 10)) }

// oneOf returns one of some things.
func oneOf[T any](d *rand.Rand, things ...T) T { return things[d.IntN(len(things))] }

// anyBits returns bits of numbers below many, often of many or of few of them.
func anyBits(d *rand.Rand, many int) int {
	one, other := d.IntN(1<<many), d.IntN(1<<many)
	return oneOf(d, one, one, one|other, one&other)
}

// someOf returns some numbers below many, ascending; often all.
func someOf(d *rand.Rand, many int) []int {
	return listed(oneOf(d, anyBits(d, many), anyBits(d, many), 1<<many-1))
}

// anyRule returns a rule of a chest, often one that needs two of so many facts.
func anyRule(d *rand.Rand, c api.ChChest, plain int) api.ChRule {
	two := 1<<d.IntN(plain) | 1<<d.IntN(plain)
	return rule(oneOf(d, two, two, two|1<<d.IntN(c.Facts)), d.IntN(c.Facts))
}

// anyFact returns a fact of a chest, often one that a rule tells.
func anyFact(d *rand.Rand, c api.ChChest) int {
	fact := d.IntN(c.Facts)
	if len(c.Rules) == 0 {
		return fact
	}
	return oneOf(d, fact, oneOf(d, c.Rules...).Then)
}

// anyChest returns a chest; some facts can often be told by rules only.
func anyChest(d *rand.Rand) api.ChChest {
	c := api.ChChest{
		Words:  1 + d.IntN(api.MaxChWords),
		Facts:  oneOf(d, 1+d.IntN(api.MaxChFacts), api.MaxChFacts),
		People: []string{"ana", "ben", "cora"}[:oneOf(d, 0, 1, 2, 2, 3, 3)],
		Last:   oneOf(d, api.MaxChNumber, 8, d.IntN(9)),
	}
	numbers := d.Perm(c.Last)
	numbers = numbers[:min(len(numbers), oneOf(d, 0, 1, 2, 3, 4, 5, 5, 6, 6))]
	slices.Sort(numbers)
	plain := oneOf(d, 1+d.IntN(c.Facts), (c.Facts+1)/2)
	for _, n := range numbers {
		one := 1 << d.IntN(plain)
		facts := oneOf(d, anyBits(d, plain), one, one, one|1<<d.IntN(plain))
		may := anyBits(d, len(c.People)) | anyBits(d, len(c.People))
		c.Copies = append(c.Copies, copied(n+1, anyBits(d, c.Words), facts, may))
	}
	for range oneOf(d, d.IntN(api.MaxChRules+1), api.MaxChRules) {
		c.Rules = append(c.Rules, anyRule(d, c, plain))
	}
	return c
}

// eachChest calls a test for many chests.
func eachChest(t *testing.T, test func(t *testing.T, d *rand.Rand, c api.ChChest)) {
	for seed := range uint64(3000) {
		d := dice(seed)
		c := anyChest(d)
		if part, at, e := chest.Check(c); part != 0 || at != 0 || e != api.OK {
			t.Fatalf("Check of %+v = %d, %d, %d", c, part, at, e)
		}
		test(t, d, c)
		if t.Failed() {
			t.Fatalf("the chest was %+v", c)
		}
	}
}

// eachPerson calls a test for many chests, and for each person of them.
func eachPerson(t *testing.T, test func(t *testing.T, d *rand.Rand, c api.ChChest, person int)) {
	eachChest(t, func(t *testing.T, d *rand.Rand, c api.ChChest) {
		for person := range c.People {
			test(t, d, c, person)
			if t.Failed() {
				t.Fatalf("the person was %d", person)
			}
		}
	})
}
