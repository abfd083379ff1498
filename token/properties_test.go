package token_test

import (
	"math"
	"math/rand/v2"
	"slices"
	"testing"

	"escribano/api"
	"escribano/token"
)

// P5.2: where a half fits is what the tests hold for it
func TestKnownFits(t *testing.T) {
	once, often, nowhere := 0, 0, 0
	eachDrawer(t, func(t *testing.T, d *rand.Rand, w api.ToDrawer) {
		for c := range w.Cards {
			for h := range w.Halves {
				want := knownFits(w, c, h)
				if l := must[[]int](t)(token.Fits(w, c, h)); !slices.Equal(l, want) {
					t.Errorf("Fits of %d, %d = %v, not %v", c, h, l, want)
				}
				switch len(want) {
				case 0:
					nowhere++
				case 1:
					once++
				default:
					often++
				}
			}
		}
	})
	if once < 1000 || often < 500 || nowhere < 1000 {
		t.Errorf("only %d fit once, %d often, %d nowhere", once, often, nowhere)
	}
}

// P5.3, P5.4, P5.9, P9: the fair truths are what the tests hold for them
func TestKnownFair(t *testing.T) {
	fakes, several, reads, downs := 0, 0, 0, 0
	eachDrawer(t, func(t *testing.T, d *rand.Rand, w api.ToDrawer) {
		known := knownTruths(w)
		fair := knownFair(known)
		first, many := mustTwo[[]int, int](t)(token.First(w))
		if !slices.Equal(first, fair[0]) || many != len(forgedIn(fair[0])) {
			t.Errorf("First = %v, %d, not %v", first, many, fair[0])
		}
		least := forgedIn(fair[0])
		for _, x := range fair {
			least = slices.MinFunc([][]int{least, forgedIn(x)}, slices.Compare[[]int])
		}
		out := must[[]int](t)(token.Forged(w))
		if !slices.Equal(out, least) {
			t.Errorf("Forged = %v, not %v", out, least)
		}
		if len(out) > 0 {
			fakes++
		}
		if len(fair) > 1 {
			several++
		}
		for h := range w.Halves {
			var whose []int
			for c := range w.Cards {
				if slices.ContainsFunc(fair, func(x []int) bool { return x[h] == c }) {
					whose = append(whose, c)
				}
			}
			if l := must[[]int](t)(token.Whose(w, h)); !slices.Equal(l, whose) {
				t.Errorf("Whose of %d = %v, not %v", h, l, whose)
			}
			if len(whose) == 1 && !slices.ContainsFunc(fair, func(x []int) bool { return x[h] == forged }) {
				checkRead(t, w, h, whose[0])
				reads++
			} else {
				checkRead(t, w, h, forged)
				downs++
			}
		}
	})
	if fakes < 500 || several < 500 || reads < 500 || downs < 500 {
		t.Errorf("only %d forged, %d with several fair truths, %d read, %d not", fakes, several, reads, downs)
	}
}

// P5.5, P5.6: which edges are alike is what the tests hold for it
func TestKnownAlike(t *testing.T) {
	pairs, enough, cards := map[bool]int{}, map[int]int{}, map[bool]int{}
	eachDrawer(t, func(t *testing.T, d *rand.Rand, w api.ToDrawer) {
		most := 0
		for one := range w.Cards {
			for other := range w.Cards {
				if one == other {
					continue
				}
				steps := cardsAlikeFor(w, one, other)
				most = max(most, steps)
				is := must[bool](t)(token.Alike(w, one, other))
				if is != (steps >= w.Least) {
					t.Errorf("Alike of %d, %d = %t, they are for %d steps", one, other, is, steps)
				}
				pairs[is]++
			}
		}
		n, e := token.Enough(w)
		enough[n]++
		if most < w.Steps && (n != most+1 || e != api.OK) || most == w.Steps && (n != 0 || e != api.ErrDown) {
			t.Errorf("Enough = %d, %d, the edges are alike for %d steps", n, e, most)
		}
		edge := anyEdge(d, w.Steps, 0, oneOf(d, 3, api.MaxToHeight))
		l := must[[]int](t)(token.New(w, edge))
		for at, c := range w.Cards {
			is := alikeFor(w.Wear, edge, c.Edge) >= w.Least
			if slices.Contains(l, at) != is {
				t.Errorf("New of %v = %v", edge, l)
			}
			cards[is]++
		}
		if !slices.IsSorted(l) || len(l) > len(w.Cards) {
			t.Errorf("New of %v = %v", edge, l)
		}
	})
	if pairs[true] < 1000 || pairs[false] < 1000 || cards[true] < 500 || cards[false] < 500 {
		t.Errorf("only %v pairs are alike, %v cards to a new one", pairs, cards)
	}
	for n := range api.MaxToSteps + 1 {
		if enough[n] < 20 {
			t.Errorf("only %d drawers for which %d steps are enough", enough[n], n)
		}
	}
}

// pieces returns a drawer with halves of some of its cards, and of which cards they are, and from which steps on they were cut.
func pieces(d *rand.Rand, w api.ToDrawer, canLose bool) (torn api.ToDrawer, of, steps []int) {
	of = d.Perm(len(w.Cards))[:d.IntN(min(len(w.Cards), api.MaxToHalves)+1)]
	for at, c := range of {
		piece, step := cut(d, w, w.Cards[c].Edge, w.Wear, canLose)
		w = brought(w, half(called(at), piece...))
		steps = append(steps, step)
	}
	return w, of, steps
}

// P5.7: of halves that are pieces none is forged, and each may be of its card
func TestTorn(t *testing.T) {
	halves, several := 0, 0
	for seed := range uint64(3000) {
		d := dice(seed)
		w, of, steps := pieces(d, anyCards(d, 0), true)
		checked(t, w)
		if l := must[[]int](t)(token.Forged(w)); len(l) > 0 {
			t.Errorf("%+v: Forged = %v", w, l)
		}
		if l, many := mustTwo[[]int, int](t)(token.First(w)); many != 0 || slices.Contains(l, forged) {
			t.Errorf("%+v: First = %v, %d", w, l, many)
		}
		for h, c := range of {
			halves++
			if l := must[[]int](t)(token.Fits(w, c, h)); !slices.Contains(l, steps[h]) {
				t.Errorf("%+v: Fits of %d, %d = %v, not %d", w, c, h, l, steps[h])
			}
			l := must[[]int](t)(token.Whose(w, h))
			if !slices.Contains(l, c) {
				t.Errorf("%+v: Whose of %d = %v, not %d", w, h, l, c)
			}
			if len(l) > 1 {
				several++
				checkRead(t, w, h, forged)
			} else {
				checkRead(t, w, h, c)
			}
		}
	}
	if halves < 2000 || several < 500 {
		t.Errorf("only %d halves, %d can be of several cards", halves, several)
	}
}

// P5.8, P3: what is read is of this card in each fair truth, and read to nobody else
func TestNothingIsRead(t *testing.T) {
	reads := 0
	eachDrawer(t, func(t *testing.T, d *rand.Rand, w api.ToDrawer) {
		fair := knownFair(knownTruths(w))
		reader := map[int]int{}
		for h := range w.Halves {
			c, e := token.Read(w, h)
			if e != api.OK {
				continue
			}
			reads++
			if slices.ContainsFunc(fair, func(x []int) bool { return x[h] != c }) {
				t.Errorf("Read of %d = %d, the fair truths are %v", h, c, fair)
			}
			if other, known := reader[c]; known {
				t.Errorf("%d is read to %d and to %d", c, other, h)
			}
			reader[c] = h
		}
	})
	if reads < 500 {
		t.Errorf("only %d are read", reads)
	}
}

// P5.9: what First returns is a truth, and no truth has fewer halves forged
func TestFewest(t *testing.T) {
	eachDrawer(t, func(t *testing.T, d *rand.Rand, w api.ToDrawer) {
		known := knownTruths(w)
		first, many := mustTwo[[]int, int](t)(token.First(w))
		if !slices.ContainsFunc(known, func(x []int) bool { return slices.Equal(x, first) }) {
			t.Errorf("First = %v is no truth", first)
		}
		out := must[[]int](t)(token.Forged(w))
		if len(out) != many {
			t.Errorf("First = %v, %d, Forged = %v", first, many, out)
		}
		for _, x := range known {
			if len(forgedIn(x)) < len(out) {
				t.Errorf("Forged = %v, in the truth %v are fewer", out, x)
			}
		}
	})
}

// P5.10: a half without lost steps that fits two cards makes them alike, and if Enough is at most Least none are
func TestTakenForEachOther(t *testing.T) {
	both, apart := 0, 0
	eachDrawer(t, func(t *testing.T, d *rand.Rand, w api.ToDrawer) {
		n, e := token.Enough(w)
		for one := range w.Cards {
			for other := range one {
				alike := must[bool](t)(token.Alike(w, one, other))
				if e == api.OK && n <= w.Least {
					apart++
					if alike {
						t.Errorf("Enough = %d, but %d and %d are alike", n, one, other)
					}
				}
				for h := range w.Halves {
					if !slices.Contains(w.Halves[h].Edge, lost) && fitsBoth(t, w, h, one, other) {
						both++
						if !alike {
							t.Errorf("%d fits %d and %d, which are not alike", h, one, other)
						}
					}
				}
			}
		}
	})
	if both < 1000 || apart < 500 {
		t.Errorf("only %d fit both, %d apart", both, apart)
	}
}

// fitsBoth reports whether a half fits two cards.
func fitsBoth(t *testing.T, w api.ToDrawer, half, one, other int) bool {
	return len(must[[]int](t)(token.Fits(w, one, half))) > 0 && len(must[[]int](t)(token.Fits(w, other, half))) > 0
}

// subsetOf reports whether all of some numbers are among others.
func subsetOf(some, others []int) bool {
	return !slices.ContainsFunc(some, func(n int) bool { return !slices.Contains(others, n) })
}

// enoughOf is what Enough returns, or one step more than there are with ErrDown.
func enoughOf(w api.ToDrawer) int {
	n, e := token.Enough(w)
	if e == api.ErrDown {
		return w.Steps + 1
	}
	return n
}

// forgedOf returns how many halves are forged.
func forgedOf(t *testing.T, w api.ToDrawer) int {
	_, many := mustTwo[[]int, int](t)(token.First(w))
	return many
}

// P5.11
func TestMoreWear(t *testing.T) {
	fewer, more := 0, 0
	eachDrawer(t, func(t *testing.T, d *rand.Rand, w api.ToDrawer) {
		next := w
		if d.IntN(2) == 0 {
			next.Wear = min(w.Wear+1+d.IntN(3), api.MaxToHeight)
		} else {
			next.Least = 1 + d.IntN(w.Least)
		}
		checked(t, next)
		for c := range w.Cards {
			for h := range w.Halves {
				if was, is := must[[]int](t)(token.Fits(w, c, h)), must[[]int](t)(token.Fits(next, c, h)); !subsetOf(was, is) {
					t.Errorf("%+v: Fits of %d, %d was %v, is %v", next, c, h, was, is)
				}
			}
			for other := range c {
				if must[bool](t)(token.Alike(w, c, other)) && !must[bool](t)(token.Alike(next, c, other)) {
					t.Errorf("%+v: %d and %d were alike", next, c, other)
				}
			}
			if edge := w.Cards[c].Edge; !subsetOf(must[[]int](t)(token.New(w, edge)), must[[]int](t)(token.New(next, edge))) {
				t.Errorf("%+v: New of %v has fewer cards", next, edge)
			}
		}
		was, is := forgedOf(t, w), forgedOf(t, next)
		if is > was || enoughOf(next) < enoughOf(w) {
			t.Errorf("%+v: forged were %d, are %d, Enough was %d, is %d", next, was, is, enoughOf(w), enoughOf(next))
		}
		if is < was {
			fewer++
		}
		if enoughOf(next) > enoughOf(w) {
			more++
		}
	})
	if fewer < 50 || more < 50 {
		t.Errorf("only %d with fewer forged, %d with more steps", fewer, more)
	}
}

// P5.12: a card with a new edge that can be taken for none is alike to none, and a half of it fits no other one
func TestNewCard(t *testing.T) {
	added := 0
	eachDrawer(t, func(t *testing.T, d *rand.Rand, w api.ToDrawer) {
		edge := anyEdge(d, w.Steps, 0, api.MaxToHeight)
		alike := must[[]int](t)(token.New(w, edge))
		last := len(w.Cards)
		if last == api.MaxToCards {
			return
		}
		next := kept(w, card("z", edge...))
		next.Halves = nil
		for at := range api.MaxToHalves {
			piece, _ := cut(d, w, edge, w.Wear, false)
			next = brought(next, half(called(at), piece...))
		}
		checked(t, next)
		for other := range w.Cards {
			is := must[bool](t)(token.Alike(next, last, other))
			if is != slices.Contains(alike, other) {
				t.Errorf("New of %v = %v, Alike of %d = %t", edge, alike, other, is)
			}
			for h := range next.Halves {
				if len(alike) == 0 && fitsBoth(t, next, h, last, other) {
					t.Errorf("%+v: %d fits %d, too", next, h, other)
				}
			}
		}
		if len(alike) == 0 && last > 0 {
			added++
		}
	})
	if added < 200 {
		t.Errorf("only %d cards", added)
	}
}

// P5.13
func TestOneMore(t *testing.T) {
	cards, halves := map[int]int{}, map[int]int{}
	eachDrawer(t, func(t *testing.T, d *rand.Rand, w api.ToDrawer) {
		was := forgedOf(t, w)
		if len(w.Cards) < api.MaxToCards {
			is := forgedOf(t, kept(w, card("z", newEdge(d, w)...)))
			if is > was {
				t.Errorf("%d are forged, with one card more %d", was, is)
			}
			cards[was-is]++
		}
		for h := range w.Halves {
			less := w
			less.Halves = slices.Delete(slices.Clone(w.Halves), h, h+1)
			is := forgedOf(t, less)
			if is > was || is < was-1 {
				t.Errorf("%d are forged, without %d %d", was, h, is)
			}
			halves[was-is]++
		}
	})
	if cards[0] < 100 || cards[1] < 100 || halves[0] < 500 || halves[1] < 500 {
		t.Errorf("only %v fewer with one card more, %v with one half less", cards, halves)
	}
}

// newEdge returns an edge of a card that some half of a drawer often fits.
func newEdge(d *rand.Rand, w api.ToDrawer) []int {
	edge := anyEdge(d, w.Steps, 0, api.MaxToHeight)
	if len(w.Halves) > 0 {
		for at, height := range w.Halves[d.IntN(len(w.Halves))].Edge {
			edge[at] = max(height, 0)
		}
	}
	return edge
}

// turned is a drawer whose edges are told from the other end.
func turned(w api.ToDrawer) api.ToDrawer {
	w = cloned(w)
	for _, c := range w.Cards {
		slices.Reverse(c.Edge)
	}
	for _, h := range w.Halves {
		slices.Reverse(h.Edge)
	}
	return w
}

// P5.14
func TestOtherEnd(t *testing.T) {
	fits := 0
	eachDrawer(t, func(t *testing.T, d *rand.Rand, w api.ToDrawer) {
		other := turned(w)
		for range 12 {
			q := asked{d.IntN(api.MaxToCards), d.IntN(api.MaxToHalves), d.IntN(api.MaxToCards), d.IntN(api.MaxToCards), anyEdge(d, w.Steps, 0, 4)}
			was := ask(w, q)
			for at := range was.fits {
				fits++
				was.fits[at] = w.Steps - len(w.Halves[q.half].Edge) - was.fits[at]
			}
			slices.Reverse(was.fits)
			slices.Reverse(q.edge)
			if is := ask(other, q); !sameAnswers(was, is) {
				t.Errorf("from the other end: %+v, not %+v", is, was)
			}
		}
	})
	if fits < 2000 {
		t.Errorf("only %d fit", fits)
	}
}

// spare is a list with more memory behind it, which is 77 each.
func spare(l []int) []int {
	return append(slices.Clone(l), 77, 77, 77)[:len(l)]
}

// isSpare reports whether the memory behind a list is as it was.
func isSpare(l []int) bool { return slices.Equal(l[len(l):len(l)+3], []int{77, 77, 77}) }

// P5.15: arguments stay as they are, and what lies behind them too
func TestNotModified(t *testing.T) {
	eachDrawer(t, func(t *testing.T, d *rand.Rand, w api.ToDrawer) {
		cards, halves := len(w.Cards), len(w.Halves)
		allCards := append(slices.Clone(w.Cards), make([]api.ToCard, 3)...)
		allHalves := append(slices.Clone(w.Halves), make([]api.ToHalf, 3)...)
		w.Cards, w.Halves = allCards[:cards], allHalves[:halves]
		var edges [][]int
		for at, c := range w.Cards {
			w.Cards[at].Edge = spare(c.Edge)
			edges = append(edges, w.Cards[at].Edge)
		}
		for at, h := range w.Halves {
			w.Halves[at].Edge = spare(h.Edge)
			edges = append(edges, w.Halves[at].Edge)
		}
		edge := spare(anyEdge(d, w.Steps, 0, 4))
		edges = append(edges, edge)
		was, whole, q := cloned(w), slices.Clone(edge), asked{0, 0, 0, 1, edge}
		first := ask(w, q)
		if !sameDrawer(w, was) || !slices.Equal(edge, whole) ||
			slices.ContainsFunc(edges, func(l []int) bool { return !isSpare(l) }) ||
			slices.ContainsFunc(allCards[cards:], func(c api.ToCard) bool { return c.Name != "" || c.Edge != nil }) ||
			slices.ContainsFunc(allHalves[halves:], func(h api.ToHalf) bool { return h.Name != "" || h.Edge != nil }) {
			t.Error("an argument was modified")
		}
		if again := ask(w, q); !sameAnswers(first, again) {
			t.Errorf("%+v, then %+v", first, again)
		}
	})
}

// P5.15: a result is new memory, and nothing is kept between calls
func TestNewMemory(t *testing.T) {
	w := brought(drawer(3, 1, 0, card("a", 0, 0, 0), card("b", 0, 0, 0)), half("a", 0), half("b", 0), half("c", 0), half("d", 0))
	edge := []int{0, 0, 0}
	was := cloned(w)
	results := func() [][]int { return ask(w, asked{0, 0, 0, 1, edge}).lists() }
	once, twice := results(), results()
	for i, l := range once {
		if len(l) < 2 {
			t.Fatalf("%d: only %v", i, l)
		}
		for at := range l {
			l[at] = 77
		}
		for _, other := range slices.Concat(once[i+1:], twice, [][]int{edge}) {
			if slices.Contains(other, 77) {
				t.Errorf("%d: memory is shared", i)
			}
		}
		if !sameDrawer(w, was) {
			t.Errorf("%d: memory of the drawer is shared", i)
		}
	}
	for i, l := range results() {
		if !slices.Equal(l, twice[i]) {
			t.Errorf("%d: %v, then %v", i, twice[i], l)
		}
	}
}

// R3, P5.15: a list that is nil is an empty one
func TestNilAndEmpty(t *testing.T) {
	w := drawer(2, 1, 0)
	empty := w
	empty.Cards, empty.Halves = []api.ToCard{}, []api.ToHalf{}
	for _, edge := range [][]int{nil, {}, {1, 2}} {
		if one, other := ask(w, asked{edge: edge}), ask(empty, asked{edge: edge}); !sameAnswers(one, other) {
			t.Errorf("%+v, not %+v", one, other)
		}
	}
}

// wildInt returns a number, often one that is just at a limit or far beyond it.
func wildInt(d *rand.Rand) int {
	return oneOf(d, math.MinInt, -1<<32, -2, -1, 0, 0, 1, 2, 3, 4, 5, 6, 7, 9, 10, 1<<32, math.MaxInt-1, math.MaxInt)
}

// wildEdge returns heights, any of which may be wild.
func wildEdge(d *rand.Rand) []int {
	edge := anyEdge(d, d.IntN(9), lost, api.MaxToHeight)
	if len(edge) > 0 && d.IntN(3) == 0 {
		edge[d.IntN(len(edge))] = wildInt(d)
	}
	return edge
}

// wildDrawer returns a drawer with things in it that are not valid.
func wildDrawer(d *rand.Rand) api.ToDrawer {
	w := anyDrawer(d)
	for range d.IntN(4) {
		switch d.IntN(7) {
		case 0:
			w.Steps = wildInt(d)
		case 1:
			w.Least = wildInt(d)
		case 2:
			w.Wear = wildInt(d)
		case 3:
			w.Cards = append(w.Cards, card(oneOf(d, "y", "z", "a", "", "Y"), wildEdge(d)...))
		case 4:
			w.Cards = w.Cards[:d.IntN(len(w.Cards)+1)]
		case 5:
			w.Halves = append(w.Halves, half(oneOf(d, "y", "z", "a", "", "Y"), wildEdge(d)...))
		case 6:
			w.Halves = w.Halves[:d.IntN(len(w.Halves)+1)]
		}
	}
	return w
}

// P1, P5.15: any arguments are accepted, and all functions tell the same error of a drawer
func TestAnyArguments(t *testing.T) {
	wrong := 0
	for seed := range uint64(6000) {
		d := dice(seed)
		w := wildDrawer(d)
		part, at, e := token.Check(w)
		got := ask(w, asked{wildInt(d), wildInt(d), wildInt(d), wildInt(d), wildEdge(d)}).errors
		if e == api.OK {
			if part != 0 || at != 0 || got[1] != api.OK || got[2] != api.OK || got[6] != api.OK && got[6] != api.ErrDown {
				t.Errorf("%+v: Check = %d, %d, errors %v", w, part, at, got)
			}
			continue
		}
		wrong++
		if part == 0 || got != allErrors(e) {
			t.Errorf("%+v: Check = %d, %d, %d, errors %v", w, part, at, e, got)
		}
	}
	if wrong < 1500 {
		t.Errorf("only %d drawers are not valid", wrong)
	}
	var empty api.ToDrawer
	if part, at, e := token.Check(empty); part != 1 || at != 0 || e != api.ErrRange {
		t.Errorf("Check = %d, %d, %d", part, at, e)
	}
	if got := ask(empty, asked{}).errors; got != allErrors(api.ErrRange) {
		t.Errorf("errors %v", got)
	}
	huge := drawer(1, 1, 0, card("a", make([]int, 1<<20)...))
	if part, at, e := token.Check(huge); part != 2 || at != 0 || e != api.ErrLong {
		t.Errorf("Check = %d, %d, %d", part, at, e)
	}
	if l, e := token.New(example(), make([]int, 1<<20)); len(l) != 0 || e != api.ErrLong {
		t.Errorf("New = %v, %d", l, e)
	}
}

// P1: the drawer for which there is most to do
func TestMostWork(t *testing.T) {
	w := drawer(api.MaxToSteps, 1, api.MaxToHeight)
	for at := range api.MaxToCards {
		w.Cards = append(w.Cards, card(called(at), 9, 9, 9, 9, 9, 9))
	}
	for at := range api.MaxToHalves {
		w.Halves = append(w.Halves, half(called(at), lost))
	}
	checked(t, w)
	all := []int{0, 1, 2, 3}
	a := ask(w, asked{3, 3, 3, 0, []int{0, 0, 0, 0, 0, 0}})
	if !slices.Equal(a.fits, []int{0, 1, 2, 3, 4, 5}) || !slices.Equal(a.first, all) || a.many != 0 || len(a.forged) != 0 || !slices.Equal(a.whose, all) ||
		!a.alike || !slices.Equal(a.new, all) || a.errors != [8]api.Errno{4: api.ErrDown, 6: api.ErrDown} {
		t.Errorf("%+v", a)
	}
}
