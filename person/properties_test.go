package person_test

import (
	"math"
	"math/rand/v2"
	"slices"
	"testing"

	"escribano/api"
	"escribano/person"
)

// P3.2, P3.3: all truths are what the tests hold for them
func TestKnownTruths(t *testing.T) {
	truths, towns := 0, 0
	eachTown(t, func(t *testing.T, d *rand.Rand, town api.PeTown) {
		known := knownTruths(town)
		persons, many, e := person.First(town)
		few, f := person.Persons(town)
		if len(known) == 0 {
			if e != api.ErrZero || f != api.ErrZero {
				t.Errorf("First = %v, %d, %d; Persons = %v, %d", persons, many, e, few, f)
			}
			return
		}
		truths += len(known)
		towns++
		if !slices.Equal(persons, known[0].persons) || many != len(known) || e != api.OK {
			t.Errorf("First = %v, %d, %d, not %v, %d", persons, many, e, known[0].persons, len(known))
		}
		want := api.Span{Lo: math.MaxInt}
		for _, k := range known {
			n := slices.Max(append([]int{-1}, k.persons...)) + 1
			want.Lo, want.Hi = min(want.Lo, n), max(want.Hi, n)
		}
		if few != want || f != api.OK {
			t.Errorf("Persons = %v, %d, not %v", few, f, want)
		}
		for a := range town.Mentions {
			want := api.Span{Lo: math.MaxInt}
			for _, k := range known {
				want.Lo, want.Hi = min(want.Lo, k.born[a].Lo), max(want.Hi, k.born[a].Hi)
			}
			if s := must[api.Span](t)(person.Born(town, a)); s != want {
				t.Errorf("Born of %d = %v, not %v", a, s, want)
			}
			for b := range a {
				if n, want := must[int](t)(person.Same(town, a, b)), knownSame(known, a, b); n != want {
					t.Errorf("Same of %d, %d = %d, not %d", a, b, n, want)
				}
			}
		}
	})
	if towns < 300 || truths < 1200 {
		t.Errorf("only %d towns with %d truths", towns, truths)
	}
}

// knownSame returns whether two mentions are of one person in all truths, in some or in none.
func knownSame(known []truth, a, b int) int {
	same := 0
	for _, k := range known {
		if k.persons[a] == k.persons[b] {
			same++
		}
	}
	switch same {
	case 0:
		return api.Never
	case len(known):
		return api.Must
	}
	return api.May
}

// yearsOf returns all years, for each person one, in which persons can be born, gone through one by one.
func yearsOf(t api.PeTown, persons []int) [][]int {
	all := [][]int{nil}
	for who := range slices.Max(persons) + 1 {
		first := t.Mentions[slices.Index(persons, who)].Born
		var longer [][]int
		for _, l := range all {
			for year := first.Lo; year <= first.Hi; year++ {
				longer = append(longer, append(slices.Clone(l), year))
			}
		}
		all = longer
	}
	return slices.DeleteFunc(all, func(years []int) bool {
		for at, m := range t.Mentions {
			year := years[persons[at]]
			if year < m.Born.Lo || year > m.Born.Hi {
				return true
			}
			if m.Parent == none {
				continue
			}
			if older := year - years[persons[m.Parent]]; older < api.PeYoung || older > api.PeOld {
				return true
			}
		}
		return false
	})
}

// P3.2, P3.3: years that are gone through one by one
func TestYearsOneByOne(t *testing.T) {
	found := 0
	for seed := range uint64(900) {
		d := dice(seed)
		town := plain(nil)
		many := 2 + d.IntN(3)
		for own := range many {
			lo := oneOf(d, 0, 40, 56, 59, 100) + d.IntN(4)
			m := born(0, none, lo, lo+d.IntN(5), none)
			if parent := d.IntN(many); parent != own && d.IntN(2) == 0 {
				m.Parent = parent
			}
			town.Mentions = append(town.Mentions, m)
		}
		truths := 0
		wide := make([]api.Span, many)
		for _, persons := range numberings(many) {
			years := yearsOf(town, persons)
			if len(years) == 0 || !isTold(town, persons) {
				continue
			}
			for _, l := range years {
				for at, who := range persons {
					if truths == 0 {
						wide[at] = api.Span{Lo: l[who], Hi: l[who]}
					}
					wide[at] = api.Span{Lo: min(wide[at].Lo, l[who]), Hi: max(wide[at].Hi, l[who])}
				}
				truths = max(truths, 1)
			}
			found++
		}
		if _, _, e := person.First(town); (e == api.OK) != (truths > 0) {
			t.Errorf("%+v: First's error is %d", town, e)
		}
		for at, want := range wide {
			if s, e := person.Born(town, at); s != want || (e == api.OK) != (truths > 0) {
				t.Errorf("%+v: Born of %d = %v, %d, not %v", town, at, s, e, want)
			}
		}
	}
	if found < 300 {
		t.Errorf("only %d truths", found)
	}
}

// P3.4
func TestKnownWhy(t *testing.T) {
	eachTown(t, func(t *testing.T, d *rand.Rand, town api.PeTown) {
		for a, m := range town.Mentions {
			for b, o := range town.Mentions {
				if a == b {
					continue
				}
				want := api.PeNothing
				switch {
				case !heardIn(town.Ear, []int{m.Spelling, o.Spelling}):
					want = api.PeSound
				case unlike(m.Village, o.Village):
					want = api.PeVillage
				case m.Born.Hi < o.Born.Lo || o.Born.Hi < m.Born.Lo:
					want = api.PeYears
				case m.Parent == b || o.Parent == a:
					want = api.PeKin
				}
				if n := must[int](t)(person.Why(town, a, b)); n != want {
					t.Errorf("Why of %d, %d = %d, not %d", a, b, n, want)
				}
			}
		}
	})
}

// P3.6
func TestKnownWho(t *testing.T) {
	eachTrueTown(t, func(t *testing.T, d *rand.Rand, town api.PeTown) {
		last := len(town.Mentions)
		x := anyMention(d, town, last, last)
		var want []int
		known := knownTruths(with(town, x))
		for at := range last {
			if len(known) > 0 && knownSame(known, at, last) != api.Never {
				want = append(want, at)
			}
		}
		if l := must[[]int](t)(person.Who(town, x)); !slices.Equal(l, want) {
			t.Errorf("Who of %+v = %v, not %v", x, l, want)
		}
	})
}

// somebody is a person who is so.
type somebody struct {
	sounds                string
	village, year, parent int
}

// anybody returns persons, a parent before each child.
func anybody(d *rand.Rand) []somebody {
	var all []somebody
	for range 1 + d.IntN(4) {
		s := somebody{oneOf(d, "20", "21", "2", "0", "1"), d.IntN(api.MaxPeVillages), d.IntN(90), none}
		if len(all) > 0 && d.IntN(2) == 0 {
			s.parent = d.IntN(len(all))
			s.year = min(api.MaxPeYear, all[s.parent].year+api.PeYoung+d.IntN(api.PeOld-api.PeYoung+1))
		}
		if s.parent == none || s.year-all[s.parent].year >= api.PeYoung {
			all = append(all, s)
		}
	}
	return all
}

// tellings returns a town whose mentions tell of persons no more than what is so, and of whom each mention is.
func tellings(d *rand.Rand, all []somebody) (api.PeTown, []int) {
	town := api.PeTown{Ear: book(), Villages: api.MaxPeVillages}
	spelt := map[string][]string{"20": {"0ke", "0hka", "1kn", "1kyn"}, "21": {"0ke", "1ky", "0keh"}, "2": {"0k", "1k", "1ky", "2b", "2c"}, "0": {"0a", "0e", "1n", "2a", "2c"}, "1": {"0e", "1y", "2a", "2b"}}
	var who []int
	for range d.IntN(api.MaxPeMentions + 1) {
		is := d.IntN(len(all))
		s := all[is]
		town.Ear.Spellings = append(town.Ear.Spellings, book(oneOf(d, spelt[s.sounds]...)).Spellings...)
		m := born(len(who), none, max(0, s.year-d.IntN(20)), min(api.MaxPeYear, s.year+d.IntN(20)), none)
		if d.IntN(2) == 0 {
			m.Village = s.village
		}
		town.Mentions = append(town.Mentions, m)
		who = append(who, is)
	}
	for at := range town.Mentions {
		if parent := slices.Index(who, all[who[at]].parent); parent >= 0 && d.IntN(3) > 0 {
			town.Mentions[at].Parent = parent
		}
	}
	return town, who
}

// P3.7, P2
func TestWhoTheyAre(t *testing.T) {
	same, few := 0, 0
	for seed := range uint64(500) {
		d := dice(seed)
		all := anybody(d)
		town, who := tellings(d, all)
		lies := 0
		if len(who) > 1 {
			for range d.IntN(api.MaxPeTies + 1) {
				tie := anyTie(d, town)
				tie.Same = who[tie.A] == who[tie.B]
				town.Ties = append(town.Ties, tie)
			}
		}
		if l := must[[]int](t)(person.Wrong(town)); len(l) > 0 {
			t.Errorf("%+v: Wrong = %v", town, l)
		}
		wrongly := cloned(town)
		for at := range wrongly.Ties {
			if d.IntN(3) == 0 {
				wrongly.Ties[at].Same = !wrongly.Ties[at].Same
				lies++
			}
		}
		if l := must[[]int](t)(person.Wrong(wrongly)); len(l) > lies {
			t.Errorf("%+v: Wrong = %v with %d lies", wrongly, l, lies)
		}
		told := slices.Clone(who)
		slices.Sort(told)
		if n, s := len(slices.Compact(told)), must[api.Span](t)(person.Persons(town)); n < s.Lo || n > s.Hi {
			t.Errorf("%+v: Persons = %v, not %d", town, s, n)
		} else if s.Hi > s.Lo {
			few++
		}
		for a := range who {
			if s, year := must[api.Span](t)(person.Born(town, a)), all[who[a]].year; year < s.Lo || year > s.Hi {
				t.Errorf("%+v: Born of %d = %v, not %d", town, a, s, year)
			}
			for b := range a {
				denied := api.Must
				if who[a] == who[b] {
					denied = api.Never
					same++
				}
				if n := must[int](t)(person.Same(town, a, b)); n == denied {
					t.Errorf("%+v: Same of %d, %d = %d", town, a, b, n)
				}
			}
		}
	}
	if same < 300 || few < 50 {
		t.Errorf("only %d mentions of one person, %d towns of which it is not known how many persons there are", same, few)
	}
}

// P3.8, P2
func TestNeverJoined(t *testing.T) {
	kept := 0
	eachTrueTown(t, func(t *testing.T, d *rand.Rand, town api.PeTown) {
		many := len(town.Mentions)
		var more []api.PeTown
		if many < api.MaxPeMentions {
			more = append(more, with(town, anyMention(d, town, many, many)), with(town, anyMention(d, town, many, many)))
		}
		if many > 1 && len(town.Ties) < api.MaxPeTies {
			more = append(more, tied(town, anyTie(d, town)), tied(town, anyTie(d, town)))
		}
		for _, next := range more {
			if _, _, e := person.First(next); e != api.OK {
				continue
			}
			for a := range many {
				for b := range a {
					was, is := must[int](t)(person.Same(town, a, b)), must[int](t)(person.Same(next, a, b))
					if was != api.May && is != was {
						t.Errorf("Same of %d, %d was %d, is %d with %+v", a, b, was, is, next)
					}
					kept++
				}
			}
		}
	})
	if kept < 2000 {
		t.Errorf("only %d pairs", kept)
	}
}

// P3.9
func TestKeptApart(t *testing.T) {
	apart, free := 0, 0
	eachTrueTown(t, func(t *testing.T, d *rand.Rand, town api.PeTown) {
		orphans := cloned(town)
		orphans.Ties = nil
		for at := range orphans.Mentions {
			orphans.Mentions[at].Parent = none
		}
		for a := range town.Mentions {
			for b := range a {
				if must[int](t)(person.Why(town, a, b)) != api.PeNothing {
					apart++
					if n := must[int](t)(person.Same(town, a, b)); n != api.Never {
						t.Errorf("Same of %d, %d = %d", a, b, n)
					}
				}
				if must[int](t)(person.Why(orphans, a, b)) == api.PeNothing {
					free++
					if n := must[int](t)(person.Same(orphans, a, b)); n == api.Never {
						t.Errorf("without ties and parents Same of %d, %d is Never", a, b)
					}
				}
			}
		}
	})
	if apart < 500 || free < 500 {
		t.Errorf("only %d and %d pairs", apart, free)
	}
}

// P3.5, P3.10, P9
func TestFewest(t *testing.T) {
	wrong, down := 0, 0
	eachTown(t, func(t *testing.T, d *rand.Rand, town api.PeTown) {
		if len(town.Mentions) > 1 {
			for len(town.Ties) < api.MaxPeTies {
				town = tied(town, anyTie(d, town))
			}
		}
		out, e := person.Wrong(town)
		if e != api.OK {
			down++
			if bare := untied(town, subsetOf(town)); e != api.ErrDown || len(knownTruths(bare)) > 0 {
				t.Errorf("Wrong = %v, %d", out, e)
			}
			return
		}
		if len(out) > 0 {
			wrong++
		}
		for _, l := range subsets(len(town.Ties)) {
			can := len(knownTruths(untied(town, l))) > 0
			if _, _, e := person.First(untied(town, l)); (e == api.OK) != can {
				t.Errorf("without the ties %v First's error is %d", l, e)
			}
			if can {
				if !slices.Equal(l, out) {
					t.Errorf("Wrong = %v, not %v", out, l)
				}
				break
			}
		}
	})
	if wrong < 200 || down < 10 {
		t.Errorf("only %d towns with wrong ties, %d without a truth", wrong, down)
	}
}

// subsetOf returns all ties of a town.
func subsetOf(t api.PeTown) []int {
	l := subsets(len(t.Ties))
	return l[len(l)-1]
}

// P3.11
func TestWhoItCanBe(t *testing.T) {
	again := 0
	eachTrueTown(t, func(t *testing.T, d *rand.Rand, town api.PeTown) {
		many := len(town.Mentions)
		x := anyMention(d, town, many, many)
		who := must[[]int](t)(person.Who(town, x))
		if !slices.IsSorted(who) || len(slices.Compact(slices.Clone(who))) != len(who) {
			t.Errorf("Who = %v", who)
		}
		if many < api.MaxPeMentions {
			for at := range town.Mentions {
				if must[int](t)(person.Why(with(town, x), at, many)) != api.PeNothing && slices.Contains(who, at) {
					t.Errorf("Who of %+v = %v", x, who)
				}
			}
		}
		for at, m := range town.Mentions {
			again++
			if l := must[[]int](t)(person.Who(town, m)); !slices.Contains(l, at) {
				t.Errorf("Who of %d = %v", at, l)
			}
		}
	})
	if again < 500 {
		t.Errorf("only %d mentions", again)
	}
}

// P3.12
func TestSurely(t *testing.T) {
	eachTrueTown(t, func(t *testing.T, d *rand.Rand, town api.PeTown) {
		same := func(a, b int) int { return must[int](t)(person.Same(town, a, b)) }
		if s := must[api.Span](t)(person.Persons(town)); s.Lo > s.Hi || s.Hi > len(town.Mentions) || s.Lo < min(1, len(town.Mentions)) {
			t.Errorf("Persons = %v", s)
		}
		for a := range town.Mentions {
			for b := range town.Mentions {
				if a == b {
					continue
				}
				if same(a, b) != same(b, a) {
					t.Errorf("Same of %d, %d = %d, %d", a, b, same(a, b), same(b, a))
				}
				for c := range town.Mentions {
					if c != a && c != b && same(a, b) == api.Must && same(b, c) == api.Must && same(a, c) != api.Must {
						t.Errorf("%d, %d and %d", a, b, c)
					}
				}
			}
		}
	})
}

// P3.13
func TestParentIsOlder(t *testing.T) {
	children := 0
	eachTrueTown(t, func(t *testing.T, d *rand.Rand, town api.PeTown) {
		for at, m := range town.Mentions {
			s := must[api.Span](t)(person.Born(town, at))
			if s.Lo > s.Hi || s.Lo < m.Born.Lo || s.Hi > m.Born.Hi {
				t.Errorf("Born of %d = %v", at, s)
			}
			if m.Parent == none {
				continue
			}
			children++
			if p := must[api.Span](t)(person.Born(town, m.Parent)); p.Lo > s.Lo-api.PeYoung || p.Hi > s.Hi-api.PeYoung {
				t.Errorf("Born of %d = %v, of its parent %v", at, s, p)
			}
		}
	})
	if children < 50 {
		t.Errorf("only %d children", children)
	}
}

// P3.14
func TestWider(t *testing.T) {
	eachTown(t, func(t *testing.T, d *rand.Rand, town api.PeTown) {
		if len(town.Mentions) == 0 {
			return
		}
		wider := cloned(town)
		m := &wider.Mentions[d.IntN(len(wider.Mentions))]
		switch d.IntN(3) {
		case 0:
			m.Village = none
		case 1:
			m.Born.Lo -= d.IntN(m.Born.Lo + 1)
		case 2:
			m.Born.Hi += d.IntN(api.MaxPeYear - m.Born.Hi + 1)
		}
		_, was, _ := person.First(town)
		if _, is, _ := person.First(wider); is < was {
			t.Errorf("%d truths, %d with %+v", was, is, wider)
		}
		l, e := person.Wrong(town)
		if out, f := person.Wrong(wider); e == api.OK && (f != api.OK || len(out) > len(l)) {
			t.Errorf("Wrong = %v, %v, %d with %+v", l, out, f, wider)
		}
	})
}

// P3.15: arguments stay as they are, and what lies behind them too
func TestNotModified(t *testing.T) {
	eachTown(t, func(t *testing.T, d *rand.Rand, town api.PeTown) {
		many := len(town.Mentions)
		x := anyMention(d, town, many, many)
		behind := append(slices.Clone(town.Mentions), make([]api.PeMention, 3)...)
		town.Mentions = behind[:many]
		was := cloned(town)
		first := errors(town, 0, 1, 0, x)
		if !sameTown(town, was) || slices.ContainsFunc(behind[many:], func(m api.PeMention) bool { return m != api.PeMention{} }) {
			t.Error("an argument was modified")
		}
		if again := errors(town, 0, 1, 0, x); again != first {
			t.Errorf("errors %v, then %v", first, again)
		}
	})
}

// P3.15: a result is new memory, and nothing is kept between calls
func TestNewMemory(t *testing.T) {
	free := born(0, none, 0, 199, none)
	town := plain([]api.PeMention{free, free, free, free, free}, same(0, 1), apart(0, 1), same(2, 3), apart(2, 3))
	bare := untied(town, subsetOf(town))
	results := func() [][]int {
		persons, _, e := person.First(bare)
		if e != api.OK {
			t.Fatalf("error %d", e)
		}
		return [][]int{persons, must[[]int](t)(person.Wrong(town)), must[[]int](t)(person.Who(bare, free))}
	}
	once, twice := results(), results()
	for i, l := range once {
		for at := range l {
			l[at] = 77
		}
		if slices.Contains(twice[i], 77) {
			t.Errorf("%d: memory is shared", i)
		}
	}
	for i, l := range results() {
		if !slices.Equal(l, twice[i]) {
			t.Errorf("%d: %v, then %v", i, twice[i], l)
		}
	}
}

// wildInt returns a number, often one that is just at a limit or far beyond it.
func wildInt(d *rand.Rand) int {
	return oneOf(d, math.MinInt, -1<<32, -2, -1, 0, 1, 2, 3, 4, 5, 6, 14, 15, 60, 61, 199, 200, 1<<32, math.MaxInt-1, math.MaxInt)
}

// wildMention returns a mention with any numbers.
func wildMention(d *rand.Rand) api.PeMention {
	return born(wildInt(d), wildInt(d), wildInt(d), wildInt(d), wildInt(d))
}

// wildTown returns a town with things in it that are not valid.
func wildTown(d *rand.Rand) api.PeTown {
	t := anyTown(d)
	for range d.IntN(4) {
		switch d.IntN(7) {
		case 0:
			t.Ear.Sounds = wildInt(d)
		case 1:
			t.Ear.Spellings = t.Ear.Spellings[:d.IntN(len(t.Ear.Spellings)+1)]
		case 2:
			t.Villages = wildInt(d)
		case 3:
			t.Mentions = append(t.Mentions, wildMention(d))
		case 4:
			if len(t.Mentions) > 0 {
				t.Mentions[0].Parent = wildInt(d)
			}
		case 5:
			t.Mentions = make([]api.PeMention, d.IntN(8))
		case 6:
			t.Ties = append(t.Ties, api.PeTie{A: wildInt(d), B: wildInt(d), Same: d.IntN(2) == 0})
		}
	}
	return t
}

// P1, P3.15: any arguments are accepted, and all functions tell the same error of a town
func TestAnyArguments(t *testing.T) {
	wrong := 0
	for seed := range uint64(4000) {
		d := dice(seed)
		town := wildTown(d)
		part, at, e := person.Check(town)
		got := errors(town, wildInt(d), wildInt(d), wildInt(d), wildMention(d))
		if e == api.OK {
			if part != 0 || at != 0 || got[0] != api.OK && got[0] != api.ErrZero || got[5] != api.OK && got[5] != api.ErrDown {
				t.Errorf("%+v: Check = %d, %d, errors %v", town, part, at, got)
			}
			continue
		}
		wrong++
		if want := [7]api.Errno{e, e, e, e, e, e, e}; part == 0 || got != want {
			t.Errorf("%+v: Check = %d, %d, %d, errors %v", town, part, at, e, got)
		}
	}
	if wrong < 1000 {
		t.Errorf("only %d towns are not valid", wrong)
	}
	var empty api.PeTown
	if part, at, e := person.Check(empty); part != 1 || at != 0 || e != api.ErrRange {
		t.Errorf("Check = %d, %d, %d", part, at, e)
	}
	errors(empty, 0, 0, 0, api.PeMention{})
	huge := plain(make([]api.PeMention, 1<<20), make([]api.PeTie, 1<<20)...)
	if part, at, e := person.Check(huge); part != 3 || at != 0 || e != api.ErrLong {
		t.Errorf("Check = %d, %d, %d", part, at, e)
	}
}

// P1: the towns for which there is most to do
func TestMostWork(t *testing.T) {
	most := api.EaBook{Sounds: 4, Alphabets: []api.EaAlphabet{{Name: "a", Letters: []api.EaLetter{{Letter: 'x', Sounds: 15, Silent: true}}}}}
	town := api.PeTown{Ear: most, Villages: 1}
	for at := range api.MaxPeMentions {
		town.Ear.Spellings = append(town.Ear.Spellings, api.EaSpelling{Text: "xxxxx"})
		town.Mentions = append(town.Mentions, born(at, none, 0, 199, none))
	}
	if l, many, e := person.First(town); !slices.Equal(l, make([]int, 5)) || many != 52 || e != api.OK {
		t.Errorf("First = %v, %d, %d", l, many, e)
	}
	if l := must[[]int](t)(person.Who(town, born(0, none, 0, 199, 4))); !slices.Equal(l, []int{0, 1, 2, 3}) {
		t.Errorf("Who = %v", l)
	}
	for at := range town.Mentions {
		town.Mentions[at].Parent = (at + 1) % api.MaxPeMentions
	}
	if l, e := person.Wrong(town); len(l) != 0 || e != api.ErrDown {
		t.Errorf("Wrong = %v, %d", l, e)
	}
}
