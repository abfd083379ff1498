package sea_test

import (
	"slices"
	"testing"

	"escribano/api"
	"escribano/sea"
)

// harbour is a harbour of two ships, of which one may sink, and of two letters.
func harbour(reports ...api.ShReport) api.ShHarbour {
	return api.ShHarbour{
		Ports: 2, Lost: 1,
		Ships: []api.ShShip{
			{Name: "alba", Sails: 1, Calls: []api.ShCall{{Port: 0, After: 3}, {Port: 1, After: 6}}, Late: api.Span{Hi: 1}},
			{Name: "brisa", Sails: 3, Calls: []api.ShCall{{Port: 1, After: 3}}},
		},
		Letters: []api.ShLetter{{Port: 1, Day: 0, Ship: api.ShNone}, {Port: 1, Day: 2, Ship: api.ShNone}},
		Reports: reports,
	}
}

// told is what is told of a truth: when each ship calls at the port 1, which ones sink, and by which ones the letter 0 can go.
type told struct {
	alba, brisa sea.Arrival
	sunk, by    int
}

// truths returns what is told of the truths of a harbour without some reports.
func truths(h api.ShHarbour, out int) []told {
	k := sea.Look(h)
	var l []told
	for f, by := range k.Truths(out) {
		l = append(l, told{k.Calls(f, 0, 1), k.Calls(f, 1, 1), k.Sunk(f), by[0]})
	}
	return l
}

func TestTruths(t *testing.T) {
	never := sea.Arrival{}
	six, seven, eight := sea.Arrival{Made: true, Day: 6}, sea.Arrival{Made: true, Day: 7}, sea.Arrival{Made: true, Day: 8}
	all := []told{
		{never, six, 1, 3}, {never, six, 1, 3}, {seven, never, 2, 3}, {seven, six, 0, 3},
		{never, six, 1, 3}, {never, six, 1, 3}, {eight, never, 2, 3}, {eight, six, 0, 3},
	}
	late := api.ShReport{Kind: api.ShSeen, Of: 0, Port: 0, Day: 5}
	lack := api.ShReport{Kind: api.ShLack, Of: 0, Day: 7}
	came := api.ShReport{Kind: api.ShCame, Of: 1, Day: 7}
	for i, c := range []struct {
		h    api.ShHarbour
		out  int
		want []told
	}{
		{harbour(), 0, all},
		{harbour(late), 0, []told{{never, six, 1, 3}, {eight, never, 2, 3}, {eight, six, 0, 3}}},
		{harbour(late, lack), 0, []told{{never, six, 1, 1}, {eight, never, 2, 3}, {eight, six, 0, 1}}},
		{harbour(late, lack, came), 0, nil},
		{harbour(late, lack, came), 4, []told{{never, six, 1, 1}, {eight, never, 2, 3}, {eight, six, 0, 1}}},
		{harbour(late, lack, came), 7, all},
		{api.ShHarbour{Ports: 1, Ships: []api.ShShip{{Name: "a"}}, Letters: []api.ShLetter{{Ship: api.ShNone}}}, 0, nil},
	} {
		if c.want != nil {
			if l := truths(c.h, c.out); !slices.Equal(l, c.want) {
				t.Errorf("%d: %v", i, l)
			}
		}
		if is := sea.Look(c.h).Possible(c.out); is != (c.want != nil) {
			t.Errorf("%d: Possible = %t", i, is)
		}
	}
}

func TestArrivals(t *testing.T) {
	k := sea.Look(harbour(api.ShReport{Kind: api.ShSeen, Of: 0, Port: 1, Day: 8}))
	want := [][]sea.Arrival{{{Made: true, Day: 8}, {}}, {{}}, {{Made: true, Day: 8}, {Made: true, Day: 6}}, {{Made: true, Day: 6}}}
	var got [][]sea.Arrival
	for f, by := range k.Truths(0) {
		got = append(got, k.Arrivals(f, by, 0), k.Arrivals(f, by, 1))
	}
	if !slices.EqualFunc(got, want, slices.Equal[[]sea.Arrival]) {
		t.Errorf("Arrivals = %v", got)
	}
}

func TestDays(t *testing.T) {
	never := sea.Arrival{}
	three, nine := sea.Arrival{Made: true, Day: 3}, sea.Arrival{Made: true, Day: 9}
	for i, c := range []struct {
		arrivals []sea.Arrival
		days     api.Span
		how      int
		e        api.Errno
	}{
		{nil, api.Span{}, 0, api.ErrZero},
		{[]sea.Arrival{never, never}, api.Span{}, api.Never, api.OK},
		{[]sea.Arrival{nine}, api.Span{Lo: 9, Hi: 9}, api.Must, api.OK},
		{[]sea.Arrival{nine, three}, api.Span{Lo: 3, Hi: 9}, api.Must, api.OK},
		{[]sea.Arrival{three, never, nine}, api.Span{Lo: 3, Hi: 9}, api.May, api.OK},
		{[]sea.Arrival{never, three}, api.Span{Lo: 3, Hi: 3}, api.May, api.OK},
	} {
		days, how, e := sea.Days(slices.Values(c.arrivals))
		if days != c.days || how != c.how || e != c.e {
			t.Errorf("%d: Days = %v, %d, %d", i, days, how, e)
		}
	}
}

func TestArrivalsByDay(t *testing.T) {
	never, three, nine := sea.Arrival{}, sea.Arrival{Made: true, Day: 3}, sea.Arrival{Made: true, Day: 9}
	if never.IsUntil(60) || three.IsUntil(2) || !three.IsUntil(3) || !three.IsUntil(9) || never.IsUntil(0) || three.IsUntil(-1) {
		t.Error("IsUntil")
	}
	if !three.IsBefore(nine) || nine.IsBefore(three) || three.IsBefore(three) || !nine.IsBefore(never) || never.IsBefore(nine) || never.IsBefore(never) {
		t.Error("IsBefore")
	}
}

func TestTakesAndNumbers(t *testing.T) {
	h := harbour()
	if alba := h.Ships[0]; !sea.Takes(alba, 0, 1) || !sea.Takes(alba, 1, 0) || sea.Takes(alba, 1, 2) || sea.Takes(alba, 2, 0) || sea.Takes(h.Ships[1], 0, 0) {
		t.Error("Takes")
	}
	if !sea.IsPort(h, 0) || !sea.IsPort(h, 1) || sea.IsPort(h, 2) || sea.IsPort(h, -1) {
		t.Error("IsPort")
	}
	if !sea.IsDay(0) || !sea.IsDay(60) || sea.IsDay(61) || sea.IsDay(-1) {
		t.Error("IsDay")
	}
	for kind, want := range []bool{api.ShSeen: false, api.ShAway: false, api.ShCame: true, api.ShLack: true} {
		if is := sea.IsOfLetter(api.ShReport{Kind: kind}); is != want {
			t.Errorf("IsOfLetter of %d = %t", kind, is)
		}
	}
}
