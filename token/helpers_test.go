package token_test

import (
	"math/rand/v2"
	"slices"
	"testing"

	"escribano/api"
	"escribano/token"
)

// lost is a step that is lost, and forged the card of a half that is forged.
const (
	lost   = api.ToLost
	forged = api.ToForged
)

// card is a card, and half a half.
func card(name string, edge ...int) api.ToCard { return api.ToCard{Name: name, Edge: edge} }

func half(name string, edge ...int) api.ToHalf { return api.ToHalf{Name: name, Edge: edge} }

// drawer is a drawer without halves.
func drawer(steps, least, wear int, cards ...api.ToCard) api.ToDrawer {
	return api.ToDrawer{Steps: steps, Least: least, Wear: wear, Cards: cards}
}

// brought is a drawer with more halves, and kept one with more cards.
func brought(d api.ToDrawer, halves ...api.ToHalf) api.ToDrawer {
	d.Halves = slices.Concat(d.Halves, halves)
	return d
}

func kept(d api.ToDrawer, cards ...api.ToCard) api.ToDrawer {
	d.Cards = slices.Concat(d.Cards, cards)
	return d
}

// example is D of the document's examples, and torn is F.
func example() api.ToDrawer {
	d := drawer(4, 2, 1, card("ana", 3, 5, 2, 7), card("ben", 3, 4, 2, 1), card("cora", 8, 8, 1, 6))
	return brought(d, half("tall", 3, 5, 2, 6), half("short", 2, 1))
}

func torn() api.ToDrawer { return brought(example(), half("torn", lost, 2)) }

// cloned is a drawer that shares no memory with d; sameDrawer reports whether two drawers are equal.
func cloned(d api.ToDrawer) api.ToDrawer {
	d.Cards, d.Halves = slices.Clone(d.Cards), slices.Clone(d.Halves)
	for i, c := range d.Cards {
		d.Cards[i].Edge = slices.Clone(c.Edge)
	}
	for i, h := range d.Halves {
		d.Halves[i].Edge = slices.Clone(h.Edge)
	}
	return d
}

func sameDrawer(a, b api.ToDrawer) bool {
	return a.Steps == b.Steps && a.Least == b.Least && a.Wear == b.Wear &&
		slices.EqualFunc(a.Cards, b.Cards, func(x, y api.ToCard) bool { return x.Name == y.Name && slices.Equal(x.Edge, y.Edge) }) &&
		slices.EqualFunc(a.Halves, b.Halves, func(x, y api.ToHalf) bool { return x.Name == y.Name && slices.Equal(x.Edge, y.Edge) })
}

// asked is what functions are asked for.
type asked struct {
	card, half, one, other int
	edge                   []int
}

// answers are the results of all functions but Check.
type answers struct {
	fits, first   []int
	many          int
	forged, whose []int
	read          int
	alike         bool
	enough        int
	new           []int
	errors        [8]api.Errno
}

// ask calls all functions but Check.
func ask(d api.ToDrawer, q asked) answers {
	var a answers
	a.fits, a.errors[0] = token.Fits(d, q.card, q.half)
	a.first, a.many, a.errors[1] = token.First(d)
	a.forged, a.errors[2] = token.Forged(d)
	a.whose, a.errors[3] = token.Whose(d, q.half)
	a.read, a.errors[4] = token.Read(d, q.half)
	a.alike, a.errors[5] = token.Alike(d, q.one, q.other)
	a.enough, a.errors[6] = token.Enough(d)
	a.new, a.errors[7] = token.New(d, q.edge)
	return a
}

// lists are the results that are lists, and sameAnswers reports whether all results are the same.
func (a answers) lists() [][]int { return [][]int{a.fits, a.first, a.forged, a.whose, a.new} }

func sameAnswers(a, b answers) bool {
	return slices.EqualFunc(a.lists(), b.lists(), slices.Equal[[]int]) &&
		a.many == b.many && a.read == b.read && a.alike == b.alike && a.enough == b.enough && a.errors == b.errors
}

// must returns the result of a call, which must have no error; mustTwo that of a call with two results.
func must[T any](t *testing.T) func(result T, e api.Errno) T {
	return func(result T, e api.Errno) T {
		t.Helper()
		if e != api.OK {
			t.Fatalf("error %d", e)
		}
		return result
	}
}

func mustTwo[T, U any](t *testing.T) func(one T, two U, e api.Errno) (T, U) {
	return func(one T, two U, e api.Errno) (T, U) {
		t.Helper()
		if e != api.OK {
			t.Fatalf("error %d", e)
		}
		return one, two
	}
}

// knownFits returns the steps at which what the tests hold for a half fits a card.
func knownFits(d api.ToDrawer, card, half int) []int {
	var steps []int
	whole, piece := d.Cards[card].Edge, d.Halves[half].Edge
	for step := 0; step+len(piece) <= len(whole); step++ {
		bad := 0
		for at, height := range piece {
			if worn := whole[step+at] - height; height != lost && (worn < 0 || worn > d.Wear) {
				bad++
			}
		}
		if bad == 0 {
			steps = append(steps, step)
		}
	}
	return steps
}

// knownTruths returns the truths of a drawer, in their order.
func knownTruths(d api.ToDrawer) [][]int {
	all := [][]int{{}}
	for half := range d.Halves {
		var longer [][]int
		for _, x := range all {
			longer = append(longer, append(slices.Clone(x), forged))
			for card := range d.Cards {
				if len(knownFits(d, card, half)) > 0 && !slices.Contains(x, card) {
					longer = append(longer, append(slices.Clone(x), card))
				}
			}
		}
		all = longer
	}
	slices.SortFunc(all, slices.Compare[[]int])
	return all
}

// forgedIn returns the halves that are forged in a truth.
func forgedIn(x []int) []int {
	var l []int
	for half, card := range x {
		if card == forged {
			l = append(l, half)
		}
	}
	return l
}

// knownFair returns those of some truths that are fair.
func knownFair(known [][]int) [][]int {
	fewest := len(known[0])
	for _, x := range known {
		fewest = min(fewest, len(forgedIn(x)))
	}
	return slices.DeleteFunc(slices.Clone(known), func(x []int) bool { return len(forgedIn(x)) > fewest })
}

// alikeFor returns for how many steps two edges are alike, at most: how far heights are alike that stand behind those of each two steps.
func alikeFor(wear int, one, other []int) int {
	most := 0
	runs := make([]int, len(other)+1)
	for _, height := range one {
		for at := len(other) - 1; at >= 0; at-- {
			if other[at]-height > wear || height-other[at] > wear {
				runs[at+1] = 0
				continue
			}
			runs[at+1] = runs[at] + 1
			most = max(most, runs[at+1])
		}
	}
	return most
}

// cardsAlikeFor returns for how many steps two cards of a drawer are alike, at most.
func cardsAlikeFor(d api.ToDrawer, one, other int) int {
	return alikeFor(d.Wear, d.Cards[one].Edge, d.Cards[other].Edge)
}

// dice returns numbers that are the same in each run.
func dice(seed uint64) *rand.Rand { return rand.New(rand.NewPCG(seed, 5)) }

// oneOf returns one of some things.
func oneOf[T any](d *rand.Rand, things ...T) T { return things[d.IntN(len(things))] }

// called returns a name for each index.
func called(at int) string { return string(rune('a' + at)) }

// anyEdge returns an edge of so many heights, from lo to hi.
func anyEdge(d *rand.Rand, many, lo, hi int) []int {
	edge := make([]int, many)
	for at := range edge {
		edge[at] = lo + d.IntN(hi-lo+1)
	}
	return edge
}

// anyCards returns a drawer without halves; its cards are often alike.
func anyCards(d *rand.Rand, least int) api.ToDrawer {
	w := drawer(1+d.IntN(api.MaxToSteps), 0, oneOf(d, 0, 0, 1, 1, 2, 3, api.MaxToHeight))
	w.Least = 1 + d.IntN(w.Steps)
	highest := oneOf(d, 2, 4, api.MaxToHeight, api.MaxToHeight)
	for at := range least + d.IntN(api.MaxToCards-least+1) {
		w.Cards = append(w.Cards, card(called(at), anyEdge(d, w.Steps, 0, highest)...))
	}
	return w
}

// cut returns a piece of an edge, worn by as much as it may be, or by more, and the step at which it was cut; some of its steps are lost, if they may be.
func cut(d *rand.Rand, w api.ToDrawer, edge []int, wear int, canLose bool) ([]int, int) {
	many := w.Least + d.IntN(w.Steps-w.Least+1)
	step := d.IntN(w.Steps - many + 1)
	piece := slices.Clone(edge[step : step+many])
	for at, height := range piece {
		piece[at] = height - d.IntN(min(height, wear)+1)
		if canLose && d.IntN(5) == 0 {
			piece[at] = lost
		}
	}
	return piece, step
}

// anyHalf returns the edge of a half of a drawer, which often fits a card.
func anyHalf(d *rand.Rand, w api.ToDrawer) []int {
	if len(w.Cards) == 0 || d.IntN(5) == 0 {
		return anyEdge(d, w.Least+d.IntN(w.Steps-w.Least+1), lost, api.MaxToHeight)
	}
	piece, _ := cut(d, w, w.Cards[d.IntN(len(w.Cards))].Edge, w.Wear+d.IntN(2), d.IntN(2) == 0)
	return piece
}

// anyDrawer returns a drawer.
func anyDrawer(d *rand.Rand) api.ToDrawer {
	w := anyCards(d, 0)
	for at := range oneOf(d, 0, 1, 2, 3, 3, 4, 4, 4) {
		w.Halves = append(w.Halves, half(called(at), anyHalf(d, w)...))
	}
	return w
}

// eachDrawer calls a test for many drawers.
func eachDrawer(t *testing.T, test func(t *testing.T, d *rand.Rand, w api.ToDrawer)) {
	for seed := range uint64(2000) {
		d := dice(seed)
		w := anyDrawer(d)
		checked(t, w)
		test(t, d, w)
		if t.Failed() {
			t.Fatalf("the drawer was %+v", w)
		}
	}
}

// checked checks that there is nothing wrong with a drawer.
func checked(t *testing.T, w api.ToDrawer) {
	t.Helper()
	if part, at, e := token.Check(w); part != 0 || at != 0 || e != api.OK {
		t.Fatalf("Check of %+v = %d, %d, %d", w, part, at, e)
	}
}
