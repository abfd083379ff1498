package token_test

import (
	"math"
	"slices"
	"strings"
	"testing"

	"escribano/api"
	"escribano/token"
)

// wrong is one thing that is wrong with a drawer: what Check returns of it.
type wrong struct {
	name     string
	change   func(d *api.ToDrawer)
	part, at int
	e        api.Errno
}

// aCard and aHalf are changes of the card 1 and of the half 1.
func aCard(change func(c *api.ToCard)) func(d *api.ToDrawer) {
	return func(d *api.ToDrawer) { change(&d.Cards[1]) }
}

func aHalf(change func(h *api.ToHalf)) func(d *api.ToDrawer) {
	return func(d *api.ToDrawer) { change(&d.Halves[1]) }
}

// wrongDrawer is the drawer that is changed.
func wrongDrawer() api.ToDrawer {
	d := drawer(4, 2, 1, card("ana", 3, 5, 2, 7), card("ben", 0, 9, 2, 1))
	return brought(d, half("tall", 3, 5, 2, 6), half("short", lost, 0, 9))
}

// wrongs returns what can be wrong, in the order of the errors.
func wrongs() []wrong {
	return []wrong{
		{"steps", func(d *api.ToDrawer) { d.Steps = 7 }, 1, 0, api.ErrRange},
		{"least", func(d *api.ToDrawer) { d.Least = 0 }, 1, 0, api.ErrRange},
		{"wear", func(d *api.ToDrawer) { d.Wear = 10 }, 1, 0, api.ErrRange},
		{"too many cards", func(d *api.ToDrawer) { d.Cards = append(d.Cards, make([]api.ToCard, 3)...) }, 2, 0, api.ErrLong},
		{"name", aCard(func(c *api.ToCard) { c.Name = "Ben" }), 2, 1, api.ErrForm},
		{"name twice", aCard(func(c *api.ToCard) { c.Name = "ana" }), 2, 1, api.ErrTwice},
		{"heights", aCard(func(c *api.ToCard) { c.Edge = append(c.Edge, 10) }), 2, 1, api.ErrLong},
		{"height", aCard(func(c *api.ToCard) { c.Edge[3] = 10 }), 2, 1, api.ErrRange},
		{"too many halves", func(d *api.ToDrawer) { d.Halves = append(d.Halves, make([]api.ToHalf, 3)...) }, 3, 0, api.ErrLong},
		{"name of a half", aHalf(func(h *api.ToHalf) { h.Name = "0" }), 3, 1, api.ErrForm},
		{"name of a half twice", aHalf(func(h *api.ToHalf) { h.Name = "tall" }), 3, 1, api.ErrTwice},
		{"heights of a half", aHalf(func(h *api.ToHalf) { h.Edge = append(h.Edge, 1, 10) }), 3, 1, api.ErrLong},
		{"height of a half", aHalf(func(h *api.ToHalf) { h.Edge[0] = -2 }), 3, 1, api.ErrRange},
	}
}

// moreWrongs returns what else can be wrong, and what is not.
func moreWrongs() []wrong {
	return []wrong{
		{"nothing", func(d *api.ToDrawer) {}, 0, 0, api.OK},
		{"no steps", func(d *api.ToDrawer) { d.Steps, d.Least = 0, 0 }, 1, 0, api.ErrRange},
		{"steps below 0", func(d *api.ToDrawer) { d.Steps, d.Least = -1, -1 }, 1, 0, api.ErrRange},
		{"far steps", func(d *api.ToDrawer) { d.Steps = math.MaxInt }, 1, 0, api.ErrRange},
		{"far steps below 0", func(d *api.ToDrawer) { d.Steps = math.MinInt }, 1, 0, api.ErrRange},
		{"one step", func(d *api.ToDrawer) { *d = drawer(1, 1, 0, card("a", 9)) }, 0, 0, api.OK},
		{"six steps", func(d *api.ToDrawer) { *d = drawer(6, 6, 0, card("a", 9, 8, 7, 0, 0, 0)) }, 0, 0, api.OK},
		{"fewer steps than the cards have", func(d *api.ToDrawer) { d.Steps = 3 }, 2, 0, api.ErrLong},
		{"more steps than the cards have", func(d *api.ToDrawer) { d.Steps = 5 }, 2, 0, api.ErrLong},
		{"least above steps", func(d *api.ToDrawer) { d.Least = 5 }, 1, 0, api.ErrRange},
		{"least below 0", func(d *api.ToDrawer) { d.Least = math.MinInt }, 1, 0, api.ErrRange},
		{"far least", func(d *api.ToDrawer) { d.Least = math.MaxInt }, 1, 0, api.ErrRange},
		{"least of one", func(d *api.ToDrawer) { d.Least = 1 }, 0, 0, api.OK},
		{"least as the shorter half", func(d *api.ToDrawer) { d.Least = 3 }, 0, 0, api.OK},
		{"least of all steps", func(d *api.ToDrawer) { d.Least = 4 }, 3, 1, api.ErrLong},
		{"no wear", func(d *api.ToDrawer) { d.Wear = 0 }, 0, 0, api.OK},
		{"most wear", func(d *api.ToDrawer) { d.Wear = 9 }, 0, 0, api.OK},
		{"wear below 0", func(d *api.ToDrawer) { d.Wear = -1 }, 1, 0, api.ErrRange},
		{"far wear", func(d *api.ToDrawer) { d.Wear = math.MaxInt }, 1, 0, api.ErrRange},
		{"no cards", func(d *api.ToDrawer) { d.Cards = nil }, 0, 0, api.OK},
		{"no halves", func(d *api.ToDrawer) { d.Halves = []api.ToHalf{} }, 0, 0, api.OK},
		{"nothing there", func(d *api.ToDrawer) { *d = drawer(6, 1, 9) }, 0, 0, api.OK},
		{"four cards", func(d *api.ToDrawer) { *d = kept(*d, card("c", 0, 0, 0, 0), card("d", 9, 9, 9, 9)) }, 0, 0, api.OK},
		{"five cards", func(d *api.ToDrawer) {
			*d = kept(*d, card("c", 0, 0, 0, 0), card("d", 9, 9, 9, 9), card("e", 1, 1, 1, 1))
		}, 2, 0, api.ErrLong},
		{"no name", aCard(func(c *api.ToCard) { c.Name = "" }), 2, 1, api.ErrForm},
		{"long name", aCard(func(c *api.ToCard) { c.Name = strings.Repeat("a", 17) }), 2, 1, api.ErrForm},
		{"name of 16 bytes", aCard(func(c *api.ToCard) { c.Name = "a.23456789012345" }), 0, 0, api.OK},
		{"first card", func(d *api.ToDrawer) { d.Cards[0].Name = "0" }, 2, 0, api.ErrForm},
		{"name of the first card", func(d *api.ToDrawer) { *d = kept(*d, card("ana", 0, 0, 0, 0)) }, 2, 2, api.ErrTwice},
		{"edges that are the same", func(d *api.ToDrawer) { d.Cards[1].Edge = d.Cards[0].Edge }, 0, 0, api.OK},
		{"fewer heights", aCard(func(c *api.ToCard) { c.Edge = c.Edge[:3] }), 2, 1, api.ErrLong},
		{"no heights", aCard(func(c *api.ToCard) { c.Edge = nil }), 2, 1, api.ErrLong},
		{"first height", aCard(func(c *api.ToCard) { c.Edge[0] = 10 }), 2, 1, api.ErrRange},
		{"lost height", aCard(func(c *api.ToCard) { c.Edge[2] = lost }), 2, 1, api.ErrRange},
		{"far height", aCard(func(c *api.ToCard) { c.Edge[2] = math.MaxInt }), 2, 1, api.ErrRange},
		{"far height below 0", aCard(func(c *api.ToCard) { c.Edge[2] = math.MinInt }), 2, 1, api.ErrRange},
		{"four halves", func(d *api.ToDrawer) { *d = brought(*d, half("c", 0, 0), half("d", 9, 9)) }, 0, 0, api.OK},
		{"five halves", func(d *api.ToDrawer) { *d = brought(*d, half("c", 0, 0), half("d", 9, 9), half("e", 9, 9)) }, 3, 0, api.ErrLong},
		{"halves with the names of cards", func(d *api.ToDrawer) { d.Halves[0].Name, d.Halves[1].Name = "ben", "ana" }, 0, 0, api.OK},
		{"no name of a half", aHalf(func(h *api.ToHalf) { h.Name = "" }), 3, 1, api.ErrForm},
		{"long name of a half", aHalf(func(h *api.ToHalf) { h.Name = strings.Repeat("b", 17) }), 3, 1, api.ErrForm},
		{"name of the first half", func(d *api.ToDrawer) { *d = brought(*d, half("tall", 1, 1)) }, 3, 2, api.ErrTwice},
		{"first half", func(d *api.ToDrawer) { d.Halves[0].Edge[0] = 10 }, 3, 0, api.ErrRange},
		{"half as long as can be", aHalf(func(h *api.ToHalf) { h.Edge = append(h.Edge, 0) }), 0, 0, api.OK},
		{"half as short as can be", aHalf(func(h *api.ToHalf) { h.Edge = h.Edge[:2] }), 0, 0, api.OK},
		{"half that is too short", aHalf(func(h *api.ToHalf) { h.Edge = h.Edge[:1] }), 3, 1, api.ErrLong},
		{"half without heights", aHalf(func(h *api.ToHalf) { h.Edge = nil }), 3, 1, api.ErrLong},
		{"half of which all is lost", aHalf(func(h *api.ToHalf) { h.Edge = []int{lost, lost, lost, lost} }), 0, 0, api.OK},
		{"half that is too high", aHalf(func(h *api.ToHalf) { h.Edge[2] = 10 }), 3, 1, api.ErrRange},
		{"half that is far too high", aHalf(func(h *api.ToHalf) { h.Edge[1] = math.MaxInt }), 3, 1, api.ErrRange},
		{"half that is far too low", aHalf(func(h *api.ToHalf) { h.Edge[1] = math.MinInt }), 3, 1, api.ErrRange},
	}
}

// allErrors is an error of all functions but Check.
func allErrors(e api.Errno) [8]api.Errno { return [8]api.Errno{e, e, e, e, e, e, e, e} }

// P5.1: each error, which all functions return first
func TestCheckEach(t *testing.T) {
	for _, w := range append(wrongs(), moreWrongs()...) {
		d := cloned(wrongDrawer())
		w.change(&d)
		part, at, e := token.Check(d)
		if part != w.part || at != w.at || e != w.e {
			t.Errorf("%s: Check = %d, %d, %d", w.name, part, at, e)
		}
		if e == api.OK {
			continue
		}
		if got := ask(d, asked{9, 9, 9, 9, nil}).errors; got != allErrors(e) {
			t.Errorf("%s: errors %v", w.name, got)
		}
		if got := ask(d, asked{0, 0, 1, 1, []int{10, 10, 10, 10}}).errors; got != allErrors(e) {
			t.Errorf("%s: errors %v", w.name, got)
		}
	}
}

// P5.1, P1: of two errors the one that is named first
func TestCheckFirst(t *testing.T) {
	all := wrongs()
	for i, w := range all {
		for _, x := range all[i+1:] {
			d := cloned(wrongDrawer())
			x.change(&d)
			w.change(&d)
			if part, at, e := token.Check(d); part != w.part || at != w.at || e != w.e {
				t.Errorf("%s, and %s: Check = %d, %d, %d", w.name, x.name, part, at, e)
			}
		}
	}
}

// P5.1, R1: of two cards or halves with an error the first one, whatever its error is
func TestCheckFirstThing(t *testing.T) {
	for _, c := range []wrong{
		{"height and name", func(d *api.ToDrawer) { d.Cards[0].Edge[3], d.Cards[1].Name = 10, "" }, 2, 0, api.ErrRange},
		{"heights and name", func(d *api.ToDrawer) { d.Cards[0].Edge, d.Cards[1].Name = nil, "" }, 2, 0, api.ErrLong},
		{"card and too many halves", func(d *api.ToDrawer) { d.Cards[1].Edge[0], d.Halves = -1, make([]api.ToHalf, 5) }, 2, 1, api.ErrRange},
		{"height and name of halves", func(d *api.ToDrawer) { d.Halves[0].Edge[0], d.Halves[1].Name = -2, "" }, 3, 0, api.ErrRange},
		{"heights and name of halves", func(d *api.ToDrawer) { d.Halves[0].Edge, d.Halves[1].Name = []int{1}, "tall" }, 3, 0, api.ErrLong},
		{"heights, one of them too high", func(d *api.ToDrawer) { d.Halves[1].Edge = []int{10} }, 3, 1, api.ErrLong},
		{"name twice that is none", func(d *api.ToDrawer) { d.Halves[0].Name, d.Halves[1].Name = "A", "A" }, 3, 0, api.ErrForm},
		{"card and half", func(d *api.ToDrawer) { d.Cards[1].Edge[0], d.Halves[0].Name = 10, "" }, 2, 1, api.ErrRange},
	} {
		d := cloned(wrongDrawer())
		c.change(&d)
		if part, at, e := token.Check(d); part != c.part || at != c.at || e != c.e {
			t.Errorf("%s: Check = %d, %d, %d", c.name, part, at, e)
		}
	}
}

// P5.2 to P5.6, P1: the errors behind that of Check, in their order
func TestErrors(t *testing.T) {
	const ok, arg, no, long, rang, down = api.OK, api.ErrArg, api.ErrNone, api.ErrLong, api.ErrRange, api.ErrDown
	edge := []int{9, 0, 9, 0}
	same := drawer(2, 1, 0, card("a", 1, 2), card("b", 1, 2))
	for i, c := range []struct {
		d    api.ToDrawer
		q    asked
		want [8]api.Errno
	}{
		{example(), asked{0, 0, 0, 1, edge}, [8]api.Errno{}},
		{example(), asked{2, 1, 2, 0, edge}, [8]api.Errno{}},
		{example(), asked{3, 1, 3, 0, edge}, [8]api.Errno{no, ok, ok, ok, ok, no, ok, ok}},
		{example(), asked{-1, 1, 0, -1, edge}, [8]api.Errno{no, ok, ok, ok, ok, no, ok, ok}},
		{example(), asked{2, 2, 3, 3, edge}, [8]api.Errno{no, ok, ok, no, no, no, ok, ok}},
		{example(), asked{0, -1, -1, -1, edge}, [8]api.Errno{no, ok, ok, no, no, no, ok, ok}},
		{example(), asked{math.MaxInt, math.MinInt, math.MinInt, math.MaxInt, edge}, [8]api.Errno{no, ok, ok, no, no, no, ok, ok}},
		{example(), asked{math.MinInt, math.MaxInt, 0, math.MaxInt, edge}, [8]api.Errno{no, ok, ok, no, no, no, ok, ok}},
		{example(), asked{0, 0, 2, 2, edge}, [8]api.Errno{5: arg}},
		{example(), asked{0, 0, 0, 1, nil}, [8]api.Errno{7: long}},
		{example(), asked{0, 0, 0, 1, []int{1, 2, 3}}, [8]api.Errno{7: long}},
		{example(), asked{0, 0, 0, 1, []int{1, 2, 3, 4, 5}}, [8]api.Errno{7: long}},
		{example(), asked{0, 0, 0, 1, []int{1, 2, 10}}, [8]api.Errno{7: long}},
		{example(), asked{0, 0, 0, 1, []int{1, 2, 3, 10}}, [8]api.Errno{7: rang}},
		{example(), asked{0, 0, 0, 1, []int{lost, 2, 3, 4}}, [8]api.Errno{7: rang}},
		{example(), asked{0, 0, 0, 1, []int{1, math.MaxInt, 3, math.MinInt}}, [8]api.Errno{7: rang}},
		{torn(), asked{0, 2, 0, 1, edge}, [8]api.Errno{4: down}},
		{torn(), asked{0, 3, 0, 0, edge}, [8]api.Errno{no, ok, ok, no, no, arg, ok, ok}},
		{same, asked{0, 0, 0, 1, []int{1, 2}}, [8]api.Errno{no, ok, ok, no, no, ok, down, ok}},
		{drawer(1, 1, 0), asked{0, 0, 0, 0, []int{9}}, [8]api.Errno{no, ok, ok, no, no, no, ok, ok}},
		{brought(drawer(1, 1, 0), half("a", 1)), asked{0, 0, 0, 0, []int{9}}, [8]api.Errno{no, ok, ok, ok, down, no, ok, ok}},
	} {
		if got := ask(c.d, c.q).errors; got != c.want {
			t.Errorf("%d: errors %v", i, got)
		}
	}
}

// P5.2 to P5.6, R2: with an error every other result is its zero value
func TestZeroWithError(t *testing.T) {
	bad := torn()
	bad.Halves[0].Edge[0] = 10
	same := kept(torn(), card("dora", 3, 5, 2, 7))
	for i, c := range []struct {
		d api.ToDrawer
		q asked
	}{
		{bad, asked{0, 1, 0, 1, []int{3, 5, 2, 7}}}, {bad, asked{9, 9, 9, 9, nil}},
		{torn(), asked{3, 1, 3, 0, nil}}, {torn(), asked{1, 3, 0, 3, nil}}, {torn(), asked{0, 1, 0, 0, []int{3, 5, 2, 10}}},
		{same, asked{0, 2, 3, 3, []int{lost, 5, 2, 7}}},
	} {
		a := ask(c.d, c.q)
		for at, l := range []int{len(a.fits), len(a.first) + a.many, len(a.forged), len(a.whose), a.read, 0, a.enough, len(a.new)} {
			if a.errors[at] != api.OK && l != 0 {
				t.Errorf("%d: %+v", i, a)
			}
		}
		if a.errors[5] != api.OK && a.alike || a.errors[7] == api.OK {
			t.Errorf("%d: %+v", i, a)
		}
	}
}

// P5.2
func TestFits(t *testing.T) {
	d := drawer(4, 1, 1, card("a", 3, 5, 2, 7))
	for i, c := range []struct {
		d    api.ToDrawer
		edge []int
		want []int
	}{
		{d, []int{3, 5, 2, 7}, []int{0}},
		{d, []int{3, 5}, []int{0}},
		{d, []int{5, 2}, []int{1}},
		{d, []int{2, 7}, []int{2}},
		{d, []int{7}, []int{3}},
		{d, []int{2}, []int{0, 2}},
		// worn by as much as can be, and by more
		{d, []int{2, 4, 1, 6}, []int{0}},
		{d, []int{2, 4, 1, 5}, nil},
		{d, []int{1, 5}, nil},
		// higher than the card
		{d, []int{4, 5}, nil},
		{d, []int{3, 5, 3}, nil},
		// beyond the end
		{d, []int{7, lost}, nil},
		{d, []int{5, 2, 7, lost}, nil},
		{d, []int{2, 7, 7}, nil},
		// what is lost fits anywhere, but it has its place
		{d, []int{lost}, []int{0, 1, 2, 3}},
		{d, []int{lost, lost}, []int{0, 1, 2}},
		{d, []int{lost, lost, lost, lost}, []int{0}},
		{d, []int{lost, 2}, []int{1}},
		{d, []int{2, lost}, []int{0, 2}},
		{d, []int{3, lost, lost, 6}, []int{0}},
		{d, []int{3, lost, 7}, nil},
		// without wear, and with the most
		{drawer(3, 1, 0, card("a", 2, 2, 2)), []int{2}, []int{0, 1, 2}},
		{drawer(3, 1, 0, card("a", 2, 2, 2)), []int{1}, nil},
		{drawer(3, 1, 0, card("a", 2, 2, 2)), []int{3}, nil},
		{drawer(3, 1, 9, card("a", 9, 0, 8)), []int{0}, []int{0, 1, 2}},
		{drawer(3, 1, 9, card("a", 9, 0, 8)), []int{1}, []int{0, 2}},
		{drawer(3, 1, 8, card("a", 9, 0, 8)), []int{0}, []int{1, 2}},
		{drawer(1, 1, 0, card("a", 0)), []int{0}, []int{0}},
		{drawer(1, 1, 9, card("a", 0)), []int{1}, nil},
	} {
		if l := must[[]int](t)(token.Fits(brought(c.d, half("x", c.edge...)), 0, 0)); !slices.Equal(l, c.want) {
			t.Errorf("%d: Fits = %v", i, l)
		}
	}
}

// P5.3, P5.4: the cards of halves that fit the card 0 alone (0), the cards 0 and 1 (1), the card 1 alone (2) or none (9)
func TestHalves(t *testing.T) {
	two := drawer(1, 1, 1, card("a", 1), card("b", 2))
	one := drawer(1, 1, 1, card("a", 1))
	for i, c := range []struct {
		d      api.ToDrawer
		halves []int
		first  []int
		whose  [][]int
		read   []int // the card, or forged with ErrDown
	}{
		{two, nil, nil, nil, nil},
		{two, []int{9}, []int{forged}, [][]int{nil}, []int{forged}},
		{two, []int{0}, []int{0}, [][]int{{0}}, []int{0}},
		{two, []int{1}, []int{0}, [][]int{{0, 1}}, []int{forged}},
		{two, []int{2}, []int{1}, [][]int{{1}}, []int{1}},
		{two, []int{2, 0}, []int{1, 0}, [][]int{{1}, {0}}, []int{1, 0}},
		// a card that another half needs is not for this one
		{two, []int{1, 0}, []int{1, 0}, [][]int{{1}, {0}}, []int{1, 0}},
		{two, []int{1, 2}, []int{0, 1}, [][]int{{0}, {1}}, []int{0, 1}},
		{two, []int{1, 1}, []int{0, 1}, [][]int{{0, 1}, {0, 1}}, []int{forged, forged}},
		{two, []int{1, 1, 9}, []int{0, 1, forged}, [][]int{{0, 1}, {0, 1}, nil}, []int{forged, forged, forged}},
		// one of two is forged
		{one, []int{0, 0}, []int{forged, 0}, [][]int{{0}, {0}}, []int{forged, forged}},
		{two, []int{0, 0}, []int{forged, 0}, [][]int{{0}, {0}}, []int{forged, forged}},
		{two, []int{2, 0, 0}, []int{1, forged, 0}, [][]int{{1}, {0}, {0}}, []int{1, forged, forged}},
		{two, []int{0, 0, 2}, []int{forged, 0, 1}, [][]int{{0}, {0}, {1}}, []int{forged, forged, 1}},
		{two, []int{0, 0, 1}, []int{forged, 0, 1}, [][]int{{0}, {0}, {1}}, []int{forged, forged, 1}},
		{two, []int{1, 1, 0}, []int{forged, 1, 0}, [][]int{{0, 1}, {0, 1}, {0}}, []int{forged, forged, forged}},
		{two, []int{1, 1, 1}, []int{forged, 0, 1}, [][]int{{0, 1}, {0, 1}, {0, 1}}, []int{forged, forged, forged}},
		// two are
		{two, []int{0, 2, 0, 2}, []int{forged, forged, 0, 1}, [][]int{{0}, {1}, {0}, {1}}, []int{forged, forged, forged, forged}},
		{two, []int{2, 0, 9, 0}, []int{1, forged, forged, 0}, [][]int{{1}, {0}, nil, {0}}, []int{1, forged, forged, forged}},
		{one, []int{9, 1, 0}, []int{forged, forged, 0}, [][]int{nil, {0}, {0}}, []int{forged, forged, forged}},
		{drawer(1, 1, 1), []int{0, 1}, []int{forged, forged}, [][]int{nil, nil}, []int{forged, forged}},
	} {
		d := c.d
		for at, height := range c.halves {
			d = brought(d, half(called(at), height))
		}
		first, many := mustTwo[[]int, int](t)(token.First(d))
		out := must[[]int](t)(token.Forged(d))
		if !slices.Equal(first, c.first) || many != len(forgedIn(c.first)) || !slices.Equal(out, forgedIn(c.first)) {
			t.Errorf("%d: First = %v, %d, Forged = %v", i, first, many, out)
		}
		for at := range c.halves {
			if l := must[[]int](t)(token.Whose(d, at)); !slices.Equal(l, c.whose[at]) {
				t.Errorf("%d: Whose of %d = %v", i, at, l)
			}
			checkRead(t, d, at, c.read[at])
		}
	}
}

// checkRead checks what Read returns: a card, or ErrDown if this is forged.
func checkRead(t *testing.T, d api.ToDrawer, half, card int) {
	t.Helper()
	e := api.OK
	if card == forged {
		card, e = 0, api.ErrDown
	}
	if n, f := token.Read(d, half); n != card || f != e {
		t.Errorf("Read of %d = %d, %d, not %d, %d", half, n, f, card, e)
	}
}

// P5.5
func TestAlike(t *testing.T) {
	for i, c := range []struct {
		least, wear int
		one, other  []int
		want        bool
	}{
		{4, 0, []int{1, 2, 3, 4}, []int{1, 2, 3, 4}, true},
		{4, 0, []int{1, 2, 3, 4}, []int{1, 2, 3, 5}, false},
		{3, 0, []int{1, 2, 3, 4}, []int{1, 2, 3, 5}, true},
		{4, 1, []int{1, 2, 3, 4}, []int{0, 3, 4, 5}, true},
		{4, 1, []int{1, 2, 3, 4}, []int{0, 3, 5, 5}, false},
		// from other steps on
		{2, 0, []int{1, 2, 3, 4}, []int{9, 9, 1, 2}, true},
		{2, 0, []int{1, 2, 3, 4}, []int{3, 4, 9, 9}, true},
		{3, 0, []int{1, 2, 3, 4}, []int{9, 2, 3, 9}, false},
		{2, 0, []int{1, 2, 3, 4}, []int{9, 2, 3, 9}, true},
		{2, 0, []int{7, 7, 2, 3}, []int{9, 2, 3, 9}, true},
		{3, 0, []int{1, 2, 3, 4}, []int{3, 4, 1, 2}, false},
		// not beyond the end, nor the other way round
		{2, 0, []int{1, 2, 3, 4}, []int{4, 1, 9, 9}, false},
		{2, 0, []int{1, 2, 3, 4}, []int{4, 3, 2, 1}, false},
		{2, 1, []int{1, 2, 3, 4}, []int{4, 3, 2, 1}, true},
		{1, 0, []int{1, 2, 3, 4}, []int{4, 9, 9, 9}, true},
		{1, 0, []int{1, 2, 3, 4}, []int{9, 9, 0, 9}, false},
		{1, 0, []int{1, 1, 1, 4}, []int{9, 9, 9, 9}, false},
		{4, 9, []int{0, 0, 0, 0}, []int{9, 9, 9, 9}, true},
		{1, 8, []int{0, 0, 0, 0}, []int{9, 9, 9, 9}, false},
	} {
		d := drawer(4, c.least, c.wear, card("z", 5, 6, 5, 6), card("a", c.one...), card("b", c.other...))
		one, other := must[bool](t)(token.Alike(d, 1, 2)), must[bool](t)(token.Alike(d, 2, 1))
		if one != c.want || other != c.want {
			t.Errorf("%d: Alike = %t, %t", i, one, other)
		}
	}
}

// P5.5
func TestEnough(t *testing.T) {
	a, b, c := card("a", 1, 1, 1), card("b", 3, 3, 3), card("c", 5, 5, 5)
	for i, w := range []struct {
		d    api.ToDrawer
		want int
		e    api.Errno
	}{
		{drawer(3, 1, 0), 1, api.OK},
		{drawer(3, 3, 9), 1, api.OK},
		{drawer(3, 1, 9, a), 1, api.OK},
		{drawer(3, 1, 1, a, b, c), 1, api.OK},
		{drawer(3, 1, 2, a, b, c), 0, api.ErrDown},
		{drawer(3, 1, 0, a, b, c, card("d", 1, 1, 1)), 0, api.ErrDown},
		{drawer(3, 3, 0, a, b, c, card("d", 1, 1, 9)), 3, api.OK},
		{drawer(3, 1, 0, a, b, c, card("d", 9, 3, 3)), 3, api.OK},
		{drawer(3, 1, 0, a, b, c, card("d", 9, 5, 9)), 2, api.OK},
		{drawer(3, 2, 1, a, b, c, card("d", 4, 4, 8)), 3, api.OK},
		{drawer(3, 2, 1, a, b, c, card("d", 4, 8, 4)), 2, api.OK},
		{drawer(1, 1, 0, card("a", 1), card("b", 2)), 1, api.OK},
		{drawer(1, 1, 1, card("a", 1), card("b", 2)), 0, api.ErrDown},
		{drawer(6, 1, 0, card("a", 1, 2, 3, 4, 5, 6), card("b", 0, 1, 2, 3, 4, 5)), 6, api.OK},
		{drawer(6, 1, 1, card("a", 1, 2, 3, 4, 5, 6), card("b", 0, 1, 2, 3, 4, 5)), 0, api.ErrDown},
	} {
		if n, e := token.Enough(w.d); n != w.want || e != w.e {
			t.Errorf("%d: Enough = %d, %d", i, n, e)
		}
	}
}

// P5.6
func TestNew(t *testing.T) {
	a, b, c := card("a", 1, 2, 3), card("b", 3, 2, 1), card("c", 8, 9, 8)
	for i, w := range []struct {
		d    api.ToDrawer
		edge []int
		want []int
	}{
		{drawer(3, 1, 0), []int{1, 2, 3}, nil},
		{drawer(3, 1, 0, a, b, c), []int{1, 1, 1}, []int{0, 1}},
		{drawer(3, 1, 0, a, b, c), []int{0, 4, 7}, nil},
		{drawer(3, 1, 0, a, b, c), []int{0, 0, 9}, []int{2}},
		{drawer(3, 2, 0, a, b, c), []int{2, 3, 2}, []int{0, 1}},
		{drawer(3, 2, 0, a, b, c), []int{9, 1, 2}, []int{0}},
		{drawer(3, 2, 0, a, b, c), []int{2, 1, 9}, []int{1}},
		{drawer(3, 2, 0, a, b, c), []int{9, 8, 1}, []int{2}},
		{drawer(3, 2, 0, a, b, c), []int{1, 3, 1}, nil},
		{drawer(3, 3, 0, a, b, c), []int{1, 2, 3}, []int{0}},
		{drawer(3, 3, 0, a, b, c), []int{2, 3, 1}, nil},
		{drawer(3, 3, 1, a, b, c), []int{2, 3, 2}, []int{0, 1}},
		{drawer(3, 3, 1, a, b, c), []int{9, 9, 9}, []int{2}},
		{drawer(3, 3, 9, a, b, c), []int{0, 0, 0}, []int{0, 1, 2}},
	} {
		if l := must[[]int](t)(token.New(w.d, w.edge)); !slices.Equal(l, w.want) {
			t.Errorf("%d: New = %v", i, l)
		}
	}
}

// the chapter's examples
func TestExamples(t *testing.T) {
	for _, c := range []struct{ card, half, step int }{{0, 0, 0}, {1, 1, 2}, {0, 2, 1}, {1, 2, 1}} {
		if l := must[[]int](t)(token.Fits(torn(), c.card, c.half)); !slices.Equal(l, []int{c.step}) {
			t.Errorf("Fits of %d, %d = %v", c.card, c.half, l)
		}
	}
	first, many := mustTwo[[]int, int](t)(token.First(example()))
	if !slices.Equal(first, []int{0, 1}) || many != 0 {
		t.Errorf("First of D = %v, %d", first, many)
	}
	first, many = mustTwo[[]int, int](t)(token.First(torn()))
	if !slices.Equal(first, []int{forged, 1, 0}) || many != 1 {
		t.Errorf("First of F = %v, %d", first, many)
	}
	if l, m := must[[]int](t)(token.Forged(example())), must[[]int](t)(token.Forged(torn())); len(l) != 0 || !slices.Equal(m, []int{0}) {
		t.Errorf("Forged = %v, %v", l, m)
	}
	if l, m := must[[]int](t)(token.Whose(torn(), 0)), must[[]int](t)(token.Whose(torn(), 2)); !slices.Equal(l, []int{0}) || !slices.Equal(m, []int{0, 1}) {
		t.Errorf("Whose = %v, %v", l, m)
	}
	checkRead(t, example(), 0, 0)
	checkRead(t, example(), 1, 1)
	checkRead(t, torn(), 1, forged)
	for _, c := range []struct {
		one, other int
		want       bool
	}{{0, 1, true}, {0, 2, true}, {1, 2, false}} {
		if is := must[bool](t)(token.Alike(example(), c.one, c.other)); is != c.want {
			t.Errorf("Alike of %d, %d = %t", c.one, c.other, is)
		}
	}
	if n := must[int](t)(token.Enough(example())); n != 4 {
		t.Errorf("Enough = %d", n)
	}
	for _, edge := range [][]int{{9, 0, 9, 0}, {0, 9, 0, 9}} {
		if l := must[[]int](t)(token.New(example(), edge)); !slices.Equal(l, []int{2}) {
			t.Errorf("New of %v = %v", edge, l)
		}
	}
}
