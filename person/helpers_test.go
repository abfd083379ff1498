package person_test

import (
	"math/rand/v2"
	"slices"
	"testing"

	"escribano/api"
	"escribano/person"
)

// none is no village, or no parent.
const none = api.PeNone

// book is a book with the alphabets of ear's examples, roman and abjad, and a third one, of whose letters any two, but not all three, can stand for one sound; each spelling is the number of an alphabet and the text.
func book(spellings ...string) api.EaBook {
	b := api.EaBook{
		Sounds: 3,
		Alphabets: []api.EaAlphabet{
			{Name: "roman", Letters: []api.EaLetter{{Letter: 'a', Sounds: 1}, {Letter: 'e', Sounds: 3}, {Letter: 'k', Sounds: 4}, {Letter: 'h', Silent: true}}},
			{Name: "abjad", Letters: []api.EaLetter{{Letter: 'k', Sounds: 4}, {Letter: 'y', Sounds: 2, Silent: true}, {Letter: 'n', Sounds: 1}}},
			{Name: "runic", Letters: []api.EaLetter{{Letter: 'a', Sounds: 3}, {Letter: 'b', Sounds: 6}, {Letter: 'c', Sounds: 5}}},
		},
	}
	for _, s := range spellings {
		b.Spellings = append(b.Spellings, api.EaSpelling{Alphabet: int(s[0] - '0'), Text: s[1:]})
	}
	return b
}

// born is a mention.
func born(spelling, village, lo, hi, parent int) api.PeMention {
	return api.PeMention{Spelling: spelling, Village: village, Born: api.Span{Lo: lo, Hi: hi}, Parent: parent}
}

// same and apart are ties.
func same(a, b int) api.PeTie { return api.PeTie{A: a, B: b, Same: true} }

func apart(a, b int) api.PeTie { return api.PeTie{A: a, B: b} }

// example is T of the document's examples, with ties.
func example(ties ...api.PeTie) api.PeTown {
	return api.PeTown{
		Ear:      book("0ke", "1ky", "0hka", "1kn"),
		Villages: 2,
		Mentions: []api.PeMention{born(0, 0, 100, 110, none), born(1, none, 105, 120, none), born(2, 1, 100, 130, none), born(3, none, 130, 140, 0)},
		Ties:     ties,
	}
}

// plain is a town of mentions that all sound alike, and ties.
func plain(mentions []api.PeMention, ties ...api.PeTie) api.PeTown {
	return api.PeTown{Ear: book("0a"), Villages: 4, Mentions: mentions, Ties: ties}
}

// with is a town with one more mention.
func with(t api.PeTown, x api.PeMention) api.PeTown {
	t.Mentions = append(slices.Clone(t.Mentions), x)
	return t
}

// tied is a town with one more tie.
func tied(t api.PeTown, tie api.PeTie) api.PeTown {
	t.Ties = append(slices.Clone(t.Ties), tie)
	return t
}

// untied is a town without some ties.
func untied(t api.PeTown, out []int) api.PeTown {
	var left []api.PeTie
	for at, tie := range t.Ties {
		if !slices.Contains(out, at) {
			left = append(left, tie)
		}
	}
	t.Ties = left
	return t
}

// cloned is a town that shares no memory with t; sameTown reports whether two towns are equal.
func cloned(t api.PeTown) api.PeTown {
	t.Ear.Alphabets = slices.Clone(t.Ear.Alphabets)
	for i := range t.Ear.Alphabets {
		t.Ear.Alphabets[i].Letters = slices.Clone(t.Ear.Alphabets[i].Letters)
	}
	t.Ear.Spellings = slices.Clone(t.Ear.Spellings)
	t.Mentions = slices.Clone(t.Mentions)
	t.Ties = slices.Clone(t.Ties)
	return t
}

func sameTown(a, b api.PeTown) bool {
	return a.Ear.Sounds == b.Ear.Sounds && slices.Equal(a.Ear.Spellings, b.Ear.Spellings) &&
		slices.EqualFunc(a.Ear.Alphabets, b.Ear.Alphabets, func(x, y api.EaAlphabet) bool {
			return x.Name == y.Name && slices.Equal(x.Letters, y.Letters)
		}) && a.Villages == b.Villages && slices.Equal(a.Mentions, b.Mentions) && slices.Equal(a.Ties, b.Ties)
}

// errors returns the error of each function but Check.
func errors(t api.PeTown, a, b, mention int, x api.PeMention) [7]api.Errno {
	_, _, first := person.First(t)
	_, same := person.Same(t, a, b)
	_, persons := person.Persons(t)
	_, born := person.Born(t, mention)
	_, why := person.Why(t, a, b)
	_, wrong := person.Wrong(t)
	_, who := person.Who(t, x)
	return [7]api.Errno{first, same, persons, born, why, wrong, who}
}

// must returns the result of a call, which must have no error.
func must[T any](t *testing.T) func(result T, e api.Errno) T {
	return func(result T, e api.Errno) T {
		t.Helper()
		if e != api.OK {
			t.Fatalf("error %d", e)
		}
		return result
	}
}

// truth is what the tests hold for a truth: persons, and for each mention when its person can be born.
type truth struct {
	persons []int
	born    []api.Span
}

// numberings returns all ways to number persons of so many mentions, in their order.
func numberings(mentions int) [][]int {
	all := [][]int{{}}
	for range mentions {
		var longer [][]int
		for _, l := range all {
			for who := range slices.Max(append([]int{-1}, l...)) + 2 {
				longer = append(longer, append(slices.Clone(l), who))
			}
		}
		all = longer
	}
	return all
}

// heard returns what a spelling can be, each as a string of digits.
func heard(b api.EaBook, spelling int) []string {
	s := b.Spellings[spelling]
	can := []string{""}
	for _, c := range []byte(s.Text) {
		var next []string
		for _, l := range b.Alphabets[s.Alphabet].Letters {
			for _, start := range can {
				if l.Letter == c && l.Silent {
					next = append(next, start)
				}
				for sound := range b.Sounds {
					if l.Letter == c && l.Sounds>>sound&1 == 1 {
						next = append(next, start+string(rune('0'+sound)))
					}
				}
			}
		}
		can = next
	}
	return can
}

// heardIn reports whether some spellings can be one string.
func heardIn(b api.EaBook, spellings []int) bool {
	can := heard(b, spellings[0])
	for _, s := range spellings[1:] {
		other := heard(b, s)
		can = slices.DeleteFunc(can, func(s string) bool { return !slices.Contains(other, s) })
	}
	return len(can) > 0
}

// unlike reports whether two villages are known, and are two.
func unlike(a, b int) bool { return a != none && b != none && a != b }

// isTold reports whether persons are so by sounds, villages, parents and ties, whatever the years.
func isTold(t api.PeTown, persons []int) bool {
	for a, m := range t.Mentions {
		var spellings []int
		for b, o := range t.Mentions {
			if persons[a] != persons[b] {
				continue
			}
			spellings = append(spellings, o.Spelling)
			if unlike(m.Village, o.Village) || m.Parent != none && o.Parent != none && persons[m.Parent] != persons[o.Parent] {
				return false
			}
		}
		if !heardIn(t.Ear, spellings) {
			return false
		}
	}
	return !slices.ContainsFunc(t.Ties, func(tie api.PeTie) bool { return tie.Same != (persons[tie.A] == persons[tie.B]) })
}

// births returns for each mention when its person can be born, or nothing if somebody cannot: by how much, at most, a person is born behind each other one, and behind the year 0.
func births(t api.PeTown, persons []int) []api.Span {
	const far = 1 << 20
	zero := len(persons)
	var behind [7][7]int
	for i := range behind {
		for j := range behind {
			if i != j {
				behind[i][j] = far
			}
		}
	}
	atMost := func(from, to, by int) { behind[from][to] = min(behind[from][to], by) }
	for at, m := range t.Mentions {
		atMost(zero, persons[at], m.Born.Hi)
		atMost(persons[at], zero, -m.Born.Lo)
		if m.Parent != none {
			atMost(persons[m.Parent], persons[at], 60)
			atMost(persons[at], persons[m.Parent], -15)
		}
	}
	for k := range behind {
		for i := range behind {
			for j := range behind {
				atMost(i, j, behind[i][k]+behind[k][j])
			}
		}
	}
	var spans []api.Span
	for _, who := range persons {
		if behind[who][who] < 0 {
			return nil
		}
		spans = append(spans, api.Span{Lo: -behind[who][zero], Hi: behind[zero][who]})
	}
	return spans
}

// knownTruths returns the truths of a town, in their order.
func knownTruths(t api.PeTown) []truth {
	var all []truth
	for _, persons := range numberings(len(t.Mentions)) {
		if !isTold(t, persons) {
			continue
		}
		if spans := births(t, persons); len(spans) == len(persons) {
			all = append(all, truth{persons, spans})
		}
	}
	return all
}

// dice returns numbers that are the same in each run.
func dice(seed uint64) *rand.Rand { return rand.New(rand.NewPCG(seed, 3)) }

// oneOf returns one of some things.
func oneOf[T any](d *rand.Rand, things ...T) T { return things[d.IntN(len(things))] }

// anyBook returns a book many of whose spellings are alike.
func anyBook(d *rand.Rand) api.EaBook {
	pool := oneOf(d, []string{"0ke", "1ky", "0hka", "1kn", "0ke"}, []string{"2a", "2b", "2c", "0e", "0he", "1n"}, []string{"2aa", "2bb", "2cc", "0ee"}, []string{"0a", "1n"})
	var spellings []string
	for range 1 + d.IntN(api.MaxEaSpellings) {
		spellings = append(spellings, oneOf(d, pool...))
	}
	return book(spellings...)
}

// anyMention returns a mention of a town in which there are so many.
func anyMention(d *rand.Rand, t api.PeTown, many, own int) api.PeMention {
	m := born(d.IntN(len(t.Ear.Spellings)), none, 0, api.MaxPeYear, none)
	if d.IntN(2) == 0 {
		m.Village = d.IntN(t.Villages)
	}
	if d.IntN(4) > 0 {
		m.Born.Lo = oneOf(d, 0, 60, 80, 100, 115, 120, 140, 180) + d.IntN(12)
		m.Born.Hi = min(api.MaxPeYear, m.Born.Lo+d.IntN(45))
	}
	if parent := d.IntN(many + 1); d.IntN(4) == 0 && parent < many && parent != own {
		m.Parent = parent
	}
	return m
}

// anyTie returns a tie of a town with at least two mentions.
func anyTie(d *rand.Rand, t api.PeTown) api.PeTie {
	two := d.Perm(len(t.Mentions))
	return api.PeTie{A: two[0], B: two[1], Same: d.IntN(2) == 0}
}

// anyTown returns a town.
func anyTown(d *rand.Rand) api.PeTown {
	t := api.PeTown{Ear: anyBook(d), Villages: 1 + d.IntN(api.MaxPeVillages)}
	many := oneOf(d, 0, 1, 2, 3, 4, 4, 5, 5)
	for own := range many {
		t.Mentions = append(t.Mentions, anyMention(d, t, many, own))
	}
	if many > 1 && d.IntN(2) == 0 {
		for range d.IntN(api.MaxPeTies + 1) {
			t.Ties = append(t.Ties, anyTie(d, t))
		}
	}
	return t
}

// eachTown calls a test for many towns.
func eachTown(t *testing.T, test func(t *testing.T, d *rand.Rand, town api.PeTown)) {
	for seed := range uint64(600) {
		d := dice(seed)
		town := anyTown(d)
		if part, at, e := person.Check(town); part != 0 || at != 0 || e != api.OK {
			t.Fatalf("Check of %+v = %d, %d, %d", town, part, at, e)
		}
		test(t, d, town)
		if t.Failed() {
			t.Fatalf("the town was %+v", town)
		}
	}
}

// eachTrueTown calls a test for many towns that have a truth.
func eachTrueTown(t *testing.T, test func(t *testing.T, d *rand.Rand, town api.PeTown)) {
	eachTown(t, func(t *testing.T, d *rand.Rand, town api.PeTown) {
		if _, _, e := person.First(town); e == api.OK {
			test(t, d, town)
		}
	})
}

// subsets returns all lists of some of the numbers below n, the shorter ones first, then number by number.
func subsets(n int) [][]int {
	var all [][]int
	for set := range 1 << n {
		var l []int
		for i := range n {
			if set>>i&1 == 1 {
				l = append(l, i)
			}
		}
		all = append(all, l)
	}
	slices.SortFunc(all, func(a, b []int) int {
		if len(a) != len(b) {
			return len(a) - len(b)
		}
		return slices.Compare(a, b)
	})
	return all
}
