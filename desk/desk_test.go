package desk_test

import (
	"math"
	"slices"
	"strings"
	"testing"

	"escribano/api"
	"escribano/desk"
)

// wrong is one thing that is wrong with a hall: what Check returns of it.
type wrong struct {
	name     string
	change   func(h *api.DeHall)
	part, at int
	e        api.Errno
}

// aWriter and aCustomer are changes of the writer 1 and of the customer 2.
func aWriter(change func(w *api.DeWriter)) func(h *api.DeHall) {
	return func(h *api.DeHall) { change(&h.Writers[1]) }
}

func aCustomer(change func(c *api.DeCustomer)) func(h *api.DeHall) {
	return func(h *api.DeHall) { change(&h.Customers[2]) }
}

// seal, kinds, free, kind, talk and ship are changes of these.
func seal(n int) func(h *api.DeHall) { return func(h *api.DeHall) { h.Seal = n } }

func kinds(n int) func(h *api.DeHall) { return aWriter(func(w *api.DeWriter) { w.Kinds = n }) }

func free(lo, hi int) func(h *api.DeHall) {
	return aWriter(func(w *api.DeWriter) { w.Free = span(lo, hi) })
}

func kind(n int) func(h *api.DeHall) { return aCustomer(func(c *api.DeCustomer) { c.Kind = n }) }

func talk(lo, hi int) func(h *api.DeHall) {
	return aCustomer(func(c *api.DeCustomer) { c.Talk = span(lo, hi) })
}

func ship(n int) func(h *api.DeHall) { return aCustomer(func(c *api.DeCustomer) { c.Ship = n }) }

// moreWriters and moreCustomers are changes by which there are more, the names of which are none.
func moreWriters(many int) func(h *api.DeHall) {
	return func(h *api.DeHall) { h.Writers = append(h.Writers, make([]api.DeWriter, many)...) }
}

func moreCustomers(many int) func(h *api.DeHall) {
	return func(h *api.DeHall) { h.Customers = append(h.Customers, make([]api.DeCustomer, many)...) }
}

// wrongs returns what can be wrong, in the order of the errors.
func wrongs() []wrong {
	return []wrong{
		{"seal", seal(6), 1, 0, api.ErrRange},
		{"too many writers", moreWriters(2), 2, 0, api.ErrLong},
		{"name", aWriter(func(w *api.DeWriter) { w.Name = "Rut" }), 2, 1, api.ErrForm},
		{"name twice", aWriter(func(w *api.DeWriter) { w.Name = "paz" }), 2, 1, api.ErrTwice},
		{"kinds", kinds(16), 2, 1, api.ErrRange},
		{"free", aWriter(func(w *api.DeWriter) { w.Free.Lo = -1 }), 2, 1, api.ErrRange},
		{"empty free", free(4, 3), 2, 1, api.ErrArg},
		{"too many customers", moreCustomers(3), 3, 0, api.ErrLong},
		{"name of a customer", aCustomer(func(c *api.DeCustomer) { c.Name = "" }), 3, 2, api.ErrForm},
		{"name of a customer twice", aCustomer(func(c *api.DeCustomer) { c.Name = "ana" }), 3, 2, api.ErrTwice},
		{"kind", kind(4), 3, 2, api.ErrRange},
		{"talk", aCustomer(func(c *api.DeCustomer) { c.Talk.Lo = 0 }), 3, 2, api.ErrRange},
		{"ship", ship(241), 3, 2, api.ErrRange},
		{"empty talk", talk(7, 6), 3, 2, api.ErrArg},
	}
}

// wrongWriters returns what else can be wrong with the seal and with writers, and what is not.
func wrongWriters() []wrong {
	return []wrong{
		{"nothing", func(h *api.DeHall) {}, 0, 0, api.OK},
		{"nothing there", func(h *api.DeHall) { *h = api.DeHall{} }, 0, 0, api.OK},
		{"no lists", func(h *api.DeHall) { h.Writers, h.Customers = []api.DeWriter{}, []api.DeCustomer{} }, 0, 0, api.OK},
		{"no seal", seal(0), 0, 0, api.OK},
		{"greatest seal", seal(5), 0, 0, api.OK},
		{"seal below 0", seal(-1), 1, 0, api.ErrRange},
		{"far seal", seal(math.MaxInt), 1, 0, api.ErrRange},
		{"far seal below 0", seal(math.MinInt), 1, 0, api.ErrRange},
		{"no writers", func(h *api.DeHall) { h.Writers = nil }, 0, 0, api.OK},
		{"three writers", func(h *api.DeHall) { h.Writers = append(h.Writers, writer("x", 0, 0, 0)) }, 0, 0, api.OK},
		{"four writers", func(h *api.DeHall) { h.Writers = append(h.Writers, writer("x", 0, 0, 0), writer("y", 0, 0, 0)) }, 2, 0, api.ErrLong},
		{"no name", aWriter(func(w *api.DeWriter) { w.Name = "" }), 2, 1, api.ErrForm},
		{"long name", aWriter(func(w *api.DeWriter) { w.Name = strings.Repeat("c", 17) }), 2, 1, api.ErrForm},
		{"name of 16 bytes", aWriter(func(w *api.DeWriter) { w.Name = "c.23456789012345" }), 0, 0, api.OK},
		{"first writer", func(h *api.DeHall) { h.Writers[0].Name = "0" }, 2, 0, api.ErrForm},
		{"first and last writer", func(h *api.DeHall) { h.Writers = append(h.Writers, writer("paz", 0, 0, 0)) }, 2, 2, api.ErrTwice},
		{"no kinds", kinds(0), 0, 0, api.OK},
		{"all kinds", kinds(15), 0, 0, api.OK},
		{"kinds below 0", kinds(-1), 2, 1, api.ErrRange},
		{"far kinds", kinds(math.MaxInt), 2, 1, api.ErrRange},
		{"far kinds below 0", kinds(math.MinInt), 2, 1, api.ErrRange},
		{"free at once", free(0, 0), 0, 0, api.OK},
		{"free at last", free(240, 240), 0, 0, api.OK},
		{"free at any minute", free(0, 240), 0, 0, api.OK},
		{"free too late", free(241, 241), 2, 1, api.ErrRange},
		{"free perhaps too late", free(0, 241), 2, 1, api.ErrRange},
		{"free too late, then below 0", free(241, -1), 2, 1, api.ErrRange},
		{"free until below 0", free(0, -1), 2, 1, api.ErrRange},
		{"free at all numbers", free(math.MinInt, math.MaxInt), 2, 1, api.ErrRange},
		{"no minute in it", free(240, 0), 2, 1, api.ErrArg},
	}
}

// wrongCustomers returns what else can be wrong with customers, and what is not.
func wrongCustomers() []wrong {
	return []wrong{
		{"no customers", func(h *api.DeHall) { h.Customers = nil }, 0, 0, api.OK},
		{"five customers", func(h *api.DeHall) {
			h.Customers = append(h.Customers, customer("x", 0, 1, 1, 0), customer("y", 0, 1, 1, 0))
		}, 0, 0, api.OK},
		{"six customers", func(h *api.DeHall) {
			h.Customers = append(h.Customers, customer("x", 0, 1, 1, 0), customer("y", 0, 1, 1, 0), customer("z", 0, 1, 1, 0))
		}, 3, 0, api.ErrLong},
		{"first customer", func(h *api.DeHall) { h.Customers[0].Ship = -1 }, 3, 0, api.ErrRange},
		{"no name of a customer", aCustomer(func(c *api.DeCustomer) { c.Name = "\xff" }), 3, 2, api.ErrForm},
		{"long name of a customer", aCustomer(func(c *api.DeCustomer) { c.Name = strings.Repeat("c", 17) }), 3, 2, api.ErrForm},
		{"name of the customer ahead", aCustomer(func(c *api.DeCustomer) { c.Name = "ben" }), 3, 2, api.ErrTwice},
		{"name of a writer", aCustomer(func(c *api.DeCustomer) { c.Name = "paz" }), 0, 0, api.OK},
		{"last kind", kind(3), 0, 0, api.OK},
		{"kind that nobody can write", kind(2), 0, 0, api.OK},
		{"kind below 0", kind(-1), 3, 2, api.ErrRange},
		{"far kind", kind(math.MaxInt), 3, 2, api.ErrRange},
		{"far kind below 0", kind(math.MinInt), 3, 2, api.ErrRange},
		{"shortest talk", talk(1, 1), 0, 0, api.OK},
		{"longest talk", talk(30, 30), 0, 0, api.OK},
		{"any talk", talk(1, 30), 0, 0, api.OK},
		{"long talk", talk(31, 31), 3, 2, api.ErrRange},
		{"perhaps long talk", talk(1, 31), 3, 2, api.ErrRange},
		{"no talk", talk(0, 0), 3, 2, api.ErrRange},
		{"talk until 0", talk(1, 0), 3, 2, api.ErrRange},
		{"far talk", talk(math.MaxInt, math.MinInt), 3, 2, api.ErrRange},
		{"no number in it", talk(30, 1), 3, 2, api.ErrArg},
		{"ship at once", ship(0), 0, 0, api.OK},
		{"last ship", ship(240), 0, 0, api.OK},
		{"ship below 0", ship(-1), 3, 2, api.ErrRange},
		{"far ship", ship(math.MaxInt), 3, 2, api.ErrRange},
		{"far ship below 0", ship(math.MinInt), 3, 2, api.ErrRange},
	}
}

// P9.1: each error, which all functions return first
func TestCheckEach(t *testing.T) {
	for _, w := range slices.Concat(wrongs(), wrongWriters(), wrongCustomers()) {
		h := exampleH()
		w.change(&h)
		part, at, e := desk.Check(h)
		if part != w.part || at != w.at || e != w.e {
			t.Errorf("%s: Check = %d, %d, %d", w.name, part, at, e)
		}
		for _, plan := range [][][]int{exampleP(), nil, {{9, 9}, {-1}, nil, nil}} {
			if got := errors(h, arguments{plan, -1}); e != api.OK && got != allErrors(e) {
				t.Errorf("%s: errors %v", w.name, got)
			}
		}
	}
}

// P9.1, P1: of two errors the one that is named first, and of two things with an error the first one
func TestCheckFirst(t *testing.T) {
	all := wrongs()
	for i, w := range all {
		for _, x := range all[i+1:] {
			h := exampleH()
			x.change(&h)
			w.change(&h)
			if part, at, e := desk.Check(h); part != w.part || at != w.at || e != w.e {
				t.Errorf("%s, and %s: Check = %d, %d, %d", w.name, x.name, part, at, e)
			}
		}
	}
	for _, c := range []wrong{
		{"writers", func(h *api.DeHall) { h.Writers[0].Free, h.Writers[1].Name = span(1, 0), "" }, 2, 0, api.ErrArg},
		{"writers of one name", func(h *api.DeHall) {
			h.Writers[1] = writer("paz", 16, 9, 8)
			h.Writers = append(h.Writers, writer("", 0, 0, 0))
		}, 2, 1, api.ErrTwice},
		{"kinds and an empty free", func(h *api.DeHall) { h.Writers[1].Kinds, h.Writers[1].Free = -1, span(9, 8) }, 2, 1, api.ErrRange},
		{"writer and customer", func(h *api.DeHall) { h.Writers[1].Free, h.Customers[0].Name = span(9, 8), "" }, 2, 1, api.ErrArg},
		{"customers", func(h *api.DeHall) { h.Customers[0].Talk, h.Customers[1].Name = span(2, 1), "" }, 3, 0, api.ErrArg},
		{"kind and an empty talk", func(h *api.DeHall) { h.Customers[1].Kind, h.Customers[1].Talk = 4, span(2, 1) }, 3, 1, api.ErrRange},
		{"ship and an empty talk", func(h *api.DeHall) { h.Customers[1].Ship, h.Customers[1].Talk = -1, span(2, 1) }, 3, 1, api.ErrRange},
		{"customers with one error", func(h *api.DeHall) { h.Customers[1].Ship, h.Customers[2].Kind = -1, 4 }, 3, 1, api.ErrRange},
	} {
		h := exampleH()
		c.change(&h)
		if part, at, e := desk.Check(h); part != c.part || at != c.at || e != c.e {
			t.Errorf("%s: Check = %d, %d, %d", c.name, part, at, e)
		}
	}
}

// fault is something that is wrong with a plan of H, and its error.
type fault struct {
	name   string
	change func(plan [][]int) [][]int
	e      api.Errno
}

// faults returns what can be wrong with P, in the order of the errors.
func faults() []fault {
	return []fault{
		{"a list too many", func(plan [][]int) [][]int { return append(plan, nil) }, api.ErrLong},
		{"no customer", func(plan [][]int) [][]int {
			plan[1] = append(plan[1], 3)
			return plan
		}, api.ErrNone},
		{"ana twice", func(plan [][]int) [][]int {
			plan[0] = append(plan[0], 0)
			return plan
		}, api.ErrTwice},
		{"rut for ben", func(plan [][]int) [][]int { return [][]int{plan[0][1:], append(plan[1], 1)} }, api.ErrArg},
		{"nobody for cora", func(plan [][]int) [][]int {
			plan[1] = plan[1][1:]
			return plan
		}, api.ErrZero},
	}
}

// P9.2, P9.3, P1: of two errors of a plan the one that is named first
func TestPlanFirst(t *testing.T) {
	h := exampleH()
	for i, f := range faults() {
		want := [7]api.Errno{f.e, f.e, f.e}
		if got := errors(h, arguments{f.change(exampleP()), 0}); got != want {
			t.Errorf("%s: errors %v", f.name, got)
		}
		for _, g := range faults()[i+1:] {
			if got := errors(h, arguments{f.change(g.change(exampleP())), 0}); got != want {
				t.Errorf("%s, and %s: errors %v", f.name, g.name, got)
			}
		}
	}
}

// P9.2, P9.3: the error of a plan
func TestPlanErrors(t *testing.T) {
	const long, none, twice, arg, zero = api.ErrLong, api.ErrNone, api.ErrTwice, api.ErrArg, api.ErrZero
	h := exampleH()
	alone, nobody := by(h, h.Writers[0]), by(h)
	for i, c := range []struct {
		h    api.DeHall
		plan [][]int
		e    api.Errno
	}{
		{h, exampleP(), api.OK},
		{h, nil, long},
		{h, [][]int{{1, 2, 0}}, long},
		{h, [][]int{{1}, {2, 0}, {}}, long},
		{h, [][]int{{9}, {2, 2}, {1}}, long},
		{h, [][]int{{1, -1}, {2, 0}}, none},
		{h, [][]int{{1}, {2, 0, math.MaxInt}}, none},
		{h, [][]int{{1}, {2, 0, math.MinInt}}, none},
		{h, [][]int{{3, 3}, {1}}, none},
		{h, [][]int{{0, 0}, {1, 3}}, none},
		{h, [][]int{{1, 0, 0}, {2}}, twice},
		{h, [][]int{{1, 0}, {2, 0}}, twice},
		{h, [][]int{{1}, {2, 0, 1}}, twice},
		{h, [][]int{{}, {1, 1}}, twice},
		{h, [][]int{{0}, {0}}, twice},
		{h, [][]int{{0}, {2, 1}}, arg},
		{h, [][]int{{}, {1}}, arg},
		{h, [][]int{{}, {}}, zero},
		{h, [][]int{nil, nil}, zero},
		{h, [][]int{{1}, {0}}, zero},
		{h, [][]int{{1, 2}, {}}, zero},
		{h, [][]int{{0, 2}, {}}, zero},
		{h, [][]int{{2, 0, 1}, nil}, api.OK},
		{alone, [][]int{{0, 1, 2}}, api.OK},
		{alone, [][]int{{0, 1, 2}, {}}, long},
		{alone, [][]int{{0, 1}}, zero},
		{alone, [][]int{{0, 1, 2, 0, 1, 2}}, twice},
		{nobody, nil, zero},
		{nobody, [][]int{}, zero},
		{nobody, [][]int{{}}, long},
		{plain(0, 2), [][]int{nil, {}}, api.OK},
		{plain(0, 2), [][]int{nil, {0}}, none},
		{plain(0, 2), nil, long},
		{api.DeHall{}, nil, api.OK},
		{api.DeHall{}, [][]int{}, api.OK},
		{api.DeHall{}, [][]int{nil}, long},
	} {
		got := errors(c.h, arguments{c.plan, 0})
		if got[2] == api.ErrDown && c.e == api.OK {
			got[2] = api.OK
		}
		if [3]api.Errno(got[:3]) != [3]api.Errno{c.e, c.e, c.e} {
			t.Errorf("%d: errors %v", i, got)
		}
	}
}

// P9.3: a customer is in the list of a writer who can write this kind
func TestKinds(t *testing.T) {
	for kinds := range api.MaxDeKinds + 1 {
		for kind := range 4 {
			w := writer("x", kinds, 0, 0)
			h := api.DeHall{Writers: []api.DeWriter{w}, Customers: []api.DeCustomer{customer("a", kind, 1, 1, 1)}}
			want, wantBest := [3]api.Errno{0, 0, api.ErrDown}, 1
			if !canWrite(w, kind) {
				want, wantBest = [3]api.Errno{api.ErrArg, api.ErrArg, api.ErrArg}, never
			}
			got := errors(h, arguments{[][]int{{0}}, 0})
			if _, over := bestOf(t, h); [3]api.Errno(got[:3]) != want || over != wantBest {
				t.Errorf("kinds %d, kind %d: errors %v, over %d", kinds, kind, got, over)
			}
		}
	}
}

// P9.2 to P9.6, P1: the errors behind that of Check, in their order
func TestErrors(t *testing.T) {
	const no, down, arg, zero = api.ErrNone, api.ErrDown, api.ErrArg, api.ErrZero
	p := exampleP()
	// nobody writes the letter of ana
	unwritten := exampleH()
	unwritten.Customers[0].Kind = 3
	for i, c := range []struct {
		h    api.DeHall
		a    arguments
		want [7]api.Errno
	}{
		{exampleH(), arguments{p, 0}, [7]api.Errno{2: down}},
		{exampleF(), arguments{p, 2}, [7]api.Errno{3: down, 4: down}},
		{exampleH(), arguments{p, 3}, [7]api.Errno{2: down, 6: no}},
		{exampleH(), arguments{p, -1}, [7]api.Errno{2: down, 6: no}},
		{exampleH(), arguments{p, math.MaxInt}, [7]api.Errno{2: down, 6: no}},
		{exampleH(), arguments{p, math.MinInt}, [7]api.Errno{2: down, 6: no}},
		{exampleF(), arguments{p, 3}, [7]api.Errno{3: down, 4: down, 6: no}},
		{unwritten, arguments{p, 0}, [7]api.Errno{0: arg, 1: arg, 2: arg, 3: down, 4: down, 6: down}},
		{unwritten, arguments{p, 1}, [7]api.Errno{0: arg, 1: arg, 2: arg, 3: down, 4: down, 6: down}},
		{unwritten, arguments{p, 3}, [7]api.Errno{0: arg, 1: arg, 2: arg, 3: down, 4: down, 6: no}},
		{by(exampleH()), arguments{nil, 0}, [7]api.Errno{0: zero, 1: zero, 2: zero, 3: down, 4: down, 6: down}},
		{plain(0, 2), arguments{[][]int{nil, nil}, 0}, [7]api.Errno{2: down, 6: no}},
		{plain(0, 0), arguments{nil, 0}, [7]api.Errno{2: down, 6: no}},
	} {
		if got := errors(c.h, c.a); got != c.want {
			t.Errorf("%d: errors %v", i, got)
		}
	}
}

// P9.2 to P9.6, R2: with an error every other result is its zero value
func TestZeroWithError(t *testing.T) {
	bad := exampleH()
	bad.Customers[2].Talk.Lo = 0
	worse := exampleF()
	worse.Customers[0].Kind = 2
	for i, c := range []struct {
		h api.DeHall
		a arguments
	}{
		{bad, arguments{exampleP(), 1}},
		{exampleF(), arguments{[][]int{{1}, {0, 2, 2}}, 3}},
		{exampleF(), arguments{[][]int{{1}, {0}}, -1}},
		{exampleH(), arguments{exampleP(), 3}},
		{worse, arguments{exampleP(), 1}},
		{worse, arguments{exampleP(), 0}},
	} {
		ends, e := desk.Ends(c.h, c.a.plan)
		fate, f := desk.Fate(c.h, c.a.plan)
		late, g := desk.Late(c.h, c.a.plan)
		plan, over, h := desk.Best(c.h)
		enough, j := desk.Enough(c.h)
		away, k := desk.Away(c.h)
		later, l := desk.Later(c.h, c.a.customer)
		if l == api.OK {
			t.Errorf("%d: Later = %d", i, later)
		}
		for at, r := range []struct {
			e    api.Errno
			zero bool
		}{{e, len(ends) == 0}, {f, fate == 0}, {g, late == 0}, {h, len(plan) == 0 && over == 0}, {j, len(enough) == 0}, {k, len(away) == 0}, {l, later == 0}} {
			if r.e != api.OK && !r.zero {
				t.Errorf("%d: the result %d has the error %d", i, at, r.e)
			}
		}
	}
}

// P9.2: when letters are sealed
func TestEnds(t *testing.T) {
	one := with(by(plain(2, 0), writer("x", 1, 3, 7)), customer("a", 0, 4, 9, 0))
	three := with(one, customer("b", 0, 1, 1, 0), customer("c", 0, 30, 30, 0))
	two := by(three, writer("x", 1, 3, 7), writer("y", 1, 240, 240))
	for i, c := range []struct {
		h    api.DeHall
		plan [][]int
		want []api.Span
	}{
		{plain(5, 0), nil, nil},
		{plain(5, 3), [][]int{nil, nil, nil}, nil},
		{one, [][]int{{0}}, []api.Span{span(9, 18)}},
		{three, [][]int{{0, 1, 2}}, []api.Span{span(9, 18), span(12, 21), span(44, 53)}},
		{three, [][]int{{2, 1, 0}}, []api.Span{span(44, 53), span(38, 42), span(35, 39)}},
		{three, [][]int{{1, 0, 2}}, []api.Span{span(12, 21), span(6, 10), span(44, 53)}},
		{two, [][]int{{1}, {2, 0}}, []api.Span{span(278, 283), span(6, 10), span(272, 272)}},
		{two, [][]int{nil, {1, 0, 2}}, []api.Span{span(249, 254), span(243, 243), span(281, 286)}},
		{plain(0, 1, waits{1, 0}), [][]int{{0}}, []api.Span{span(1, 1)}},
		{plain(0, 1, waits{1, 0}, waits{2, 0}), [][]int{{1, 0}}, []api.Span{span(3, 3), span(2, 2)}},
		{plain(5, 1, waits{1, 0}, waits{2, 0}), [][]int{{1, 0}}, []api.Span{span(13, 13), span(7, 7)}},
	} {
		if l := must[[]api.Span](t)(desk.Ends(c.h, c.plan)); !slices.Equal(l, c.want) {
			t.Errorf("%d: Ends = %v", i, l)
		}
	}
}

// lined is a hall with ships of a, whose letter is sealed from 9 to 18 by the plan a, b, c, of b, from 12 to 21, and of c, from 44 to 53.
func lined(a, b, c int) api.DeHall {
	return with(by(plain(2, 0), writer("x", 1, 3, 7)), customer("a", 0, 4, 9, a), customer("b", 0, 1, 1, b), customer("c", 0, 30, 30, c))
}

// paired is a hall with ships of a and b, and with the writers x, who is free from 0 to 9, and y, who is at 5.
func paired(a, b int) api.DeHall {
	return with(by(plain(0, 0), writer("x", 1, 0, 9), writer("y", 1, 5, 5)), customer("a", 0, 1, 1, a), customer("b", 0, 2, 4, b))
}

// P9.2, P9.3: whether letters are in time, and the first one that may be late
func TestFateAndLate(t *testing.T) {
	const may, must, no = api.May, api.Must, api.Never
	line, apart := [][]int{{0, 1, 2}}, [][]int{{0}, {1}}
	for i, c := range []struct {
		h          api.DeHall
		plan       [][]int
		fate, late int
	}{
		{plain(5, 0), nil, must, never},
		{plain(5, 2), [][]int{nil, nil}, must, never},
		{lined(18, 21, 53), line, must, never},
		{lined(240, 240, 240), line, must, never},
		{lined(17, 21, 53), line, may, 0},
		{lined(18, 20, 53), line, may, 1},
		{lined(18, 21, 52), line, may, 2},
		{lined(9, 12, 44), line, may, 0},
		{lined(8, 12, 44), line, no, 0},
		{lined(9, 11, 44), line, no, 0},
		{lined(18, 11, 53), line, no, 1},
		{lined(18, 21, 43), line, no, 2},
		{lined(0, 0, 0), line, no, 0},
		// the ship that sails first, of several the first customer
		{lined(17, 16, 53), line, may, 1},
		{lined(17, 16, 15), line, no, 2},
		{lined(17, 17, 53), line, may, 0},
		{lined(18, 17, 17), line, no, 1},
		{lined(18, 20, 19), line, no, 2},
		{lined(17, 18, 19), line, no, 0},
		{lined(18, 18, 18), line, no, 1},
		// in time, though the ship sails first
		{lined(18, 20, 52), line, may, 1},
		{lined(18, 30, 29), line, no, 2},
		// the order is that of the list
		{lined(53, 35, 20), [][]int{{1, 0, 2}}, no, 2},
		{lined(21, 10, 53), [][]int{{1, 0, 2}}, must, never},
		{lined(21, 9, 53), [][]int{{1, 0, 2}}, may, 1},
		// two writers
		{paired(10, 9), apart, must, never},
		{paired(9, 9), apart, may, 0},
		{paired(1, 7), apart, may, 0},
		{paired(0, 9), apart, no, 0},
		{paired(10, 8), apart, may, 1},
		{paired(9, 8), apart, may, 1},
		{paired(8, 8), apart, may, 0},
		{paired(10, 6), apart, no, 1},
		{paired(6, 13), [][]int{nil, {0, 1}}, must, never},
		{paired(5, 13), [][]int{nil, {0, 1}}, no, 0},
	} {
		fate, e := desk.Fate(c.h, c.plan)
		if late := orNever(t)(desk.Late(c.h, c.plan)); fate != c.fate || e != api.OK || late != c.late {
			t.Errorf("%d: Fate = %d, %d; Late = %d", i, fate, e, late)
		}
	}
}

// best is a hall, Best's plan of it, and when it is over, or never.
type best struct {
	h    api.DeHall
	plan [][]int
	over int
}

// freeLater is a hall whose writers all are free from lo to hi.
func freeLater(h api.DeHall, lo, hi int) api.DeHall {
	for at := range h.Writers {
		h.Writers[at].Free = span(lo, hi)
	}
	return h
}

// testBest tests Best of some halls.
func testBest(t *testing.T, halls []best) {
	t.Helper()
	for i, c := range halls {
		if plan, over := bestOf(t, c.h); !samePlan(plan, c.plan) || over != c.over {
			t.Errorf("%d: Best = %v, %d", i, plan, over)
		}
	}
}

// P9.4: the plan of one writer, and of two of whom one is enough
func TestBestOfOne(t *testing.T) {
	testBest(t, []best{
		// no customers: nobody waits for a writer
		{plain(5, 0), nil, 0},
		{plain(5, 1), [][]int{nil}, 0},
		{freeLater(plain(5, 3), 100, 200), [][]int{nil, nil, nil}, 0},
		// no writers
		{plain(0, 0, waits{1, 240}), nil, never},
		// an empty list comes before each other one
		{plain(0, 2, waits{3, 3}), [][]int{nil, {0}}, 3},
		{plain(1, 3, waits{3, 4}), [][]int{nil, nil, {0}}, 4},
		{plain(1, 3, waits{3, 3}), nil, never},
		{by(plain(0, 0, waits{3, 9}), writer("x", 1, 0, 1), writer("y", 1, 0, 2)), [][]int{{0}, nil}, 4},
		{by(plain(0, 0, waits{3, 9}), writer("x", 1, 0, 2), writer("y", 1, 1, 1)), [][]int{nil, {0}}, 4},
		// the order in which they are written for does not matter, then it does
		{plain(0, 1, waits{3, 9}, waits{4, 9}), [][]int{{0, 1}}, 7},
		{plain(0, 1, waits{3, 7}, waits{4, 7}), [][]int{{0, 1}}, 7},
		{plain(0, 1, waits{3, 7}, waits{4, 6}), [][]int{{1, 0}}, 7},
		{plain(1, 1, waits{3, 9}, waits{4, 6}), [][]int{{1, 0}}, 9},
		{plain(1, 1, waits{3, 8}, waits{4, 6}), nil, never},
		{plain(0, 1, waits{3, 6}, waits{4, 6}), nil, never},
		{plain(0, 1, waits{3, 9}, waits{4, 9}, waits{2, 2}), [][]int{{2, 0, 1}}, 9},
		{plain(0, 1, waits{3, 9}, waits{4, 6}, waits{2, 6}), [][]int{{1, 2, 0}}, 9},
		{plain(0, 1, waits{3, 9}, waits{4, 6}, waits{2, 5}), [][]int{{2, 1, 0}}, 9},
		// in the truth in which it is over last
		{with(by(plain(0, 0), writer("x", 1, 0, 5), writer("y", 1, 4, 4)), customer("a", 0, 2, 2, 9)), [][]int{nil, {0}}, 6},
		{with(by(plain(0, 0), writer("x", 1, 0, 5)), customer("a", 0, 1, 9, 14)), [][]int{{0}}, 14},
		{with(by(plain(0, 0), writer("x", 1, 0, 5)), customer("a", 0, 1, 9, 13)), nil, never},
		// the last minute
		{freeLater(plain(0, 1, waits{1, 240}), 239, 239), [][]int{{0}}, 240},
		{freeLater(plain(0, 1, waits{1, 240}), 240, 240), nil, never},
		{freeLater(plain(1, 1, waits{1, 240}), 0, 239), nil, never},
	})
}

// P9.4: the plan of several writers
func TestBestOfSeveral(t *testing.T) {
	testBest(t, []best{
		// as early as can be
		{plain(0, 2, waits{3, 99}, waits{4, 99}), [][]int{{0}, {1}}, 4},
		{plain(0, 2, waits{3, 99}, waits{4, 99}, waits{1, 99}), [][]int{{0, 2}, {1}}, 4},
		{plain(0, 2, waits{3, 99}, waits{4, 99}, waits{7, 99}), [][]int{{0, 1}, {2}}, 7},
		{plain(1, 2, waits{3, 99}, waits{4, 99}, waits{7, 99}), [][]int{{0, 1}, {2}}, 9},
		{plain(0, 2, waits{3, 99}, waits{4, 99}, waits{8, 99}), [][]int{{0, 1}, {2}}, 8},
		{plain(0, 2, waits{3, 99}, waits{4, 99}, waits{8, 99}, waits{1, 99}), [][]int{{0, 1, 3}, {2}}, 8},
		{plain(0, 3, waits{3, 99}, waits{4, 99}, waits{7, 99}), [][]int{nil, {0, 1}, {2}}, 7},
		{plain(0, 3, waits{9, 99}, waits{8, 99}, waits{1, 99}, waits{2, 99}), [][]int{{0}, {1}, {2, 3}}, 9},
		{plain(0, 3, waits{9, 99}, waits{6, 99}, waits{1, 99}, waits{2, 99}), [][]int{nil, {0}, {1, 2, 3}}, 9},
		// as early as can be, but in time
		{plain(0, 2, waits{3, 99}, waits{4, 4}, waits{7, 7}), [][]int{{1, 0}, {2}}, 7},
		{plain(0, 2, waits{3, 3}, waits{4, 4}, waits{7, 10}), [][]int{{0, 2}, {1}}, 10},
		{plain(0, 2, waits{3, 3}, waits{4, 4}, waits{7, 9}), nil, never},
		// kinds
		{with(by(plain(0, 0), writer("x", 2, 0, 0), writer("y", 9, 0, 0)), customer("a", 1, 5, 5, 9), customer("b", 3, 5, 5, 9)), [][]int{{0}, {1}}, 5},
		{with(by(plain(0, 0), writer("x", 2, 0, 0), writer("y", 9, 0, 0)), customer("a", 3, 4, 4, 9), customer("b", 3, 5, 5, 9)), [][]int{nil, {0, 1}}, 9},
		{with(by(plain(0, 0), writer("x", 2, 0, 0), writer("y", 9, 0, 0)), customer("a", 3, 4, 4, 9), customer("b", 2, 5, 5, 9)), nil, never},
		// the last minute
		{freeLater(plain(5, 3, waits{30, 240}, waits{30, 240}, waits{30, 240}, waits{30, 240}, waits{30, 240}), 0, 170), [][]int{{0}, {1, 2}, {3, 4}}, 240},
		{freeLater(plain(5, 3, waits{30, 240}, waits{30, 240}, waits{30, 240}, waits{30, 240}, waits{30, 240}), 0, 171), nil, never},
	})
}

// P9.5
func TestEnough(t *testing.T) {
	// x writes the kinds 0 and 1, y 1 and 2, z 0 and 2
	pairs := by(plain(0, 0), writer("x", 3, 0, 0), writer("y", 6, 0, 0), writer("z", 5, 0, 0))
	for i, c := range []struct {
		h     api.DeHall
		want  []int
		found bool
	}{
		{plain(5, 0), nil, true},
		{plain(5, 3), nil, true},
		{plain(0, 0, waits{1, 240}), nil, false},
		{plain(0, 1, waits{1, 1}), []int{0}, true},
		{plain(0, 3, waits{1, 1}), []int{0}, true},
		{plain(0, 3, waits{2, 1}), nil, false},
		{plain(0, 3, waits{2, 5}, waits{3, 5}), []int{0}, true},
		{plain(0, 3, waits{2, 4}, waits{3, 4}), []int{0, 1}, true},
		{plain(0, 3, waits{2, 4}, waits{3, 4}, waits{4, 4}), []int{0, 1, 2}, true},
		{plain(0, 3, waits{2, 4}, waits{3, 4}, waits{4, 4}, waits{3, 4}), nil, false},
		{plain(0, 3, waits{2, 4}, waits{3, 4}, waits{4, 4}, waits{1, 4}), []int{0, 1, 2}, true},
		{plain(1, 3, waits{2, 4}, waits{3, 4}, waits{4, 4}, waits{1, 4}), nil, false},
		// by kinds
		{with(pairs, customer("a", 2, 1, 1, 9)), []int{1}, true},
		{with(pairs, customer("a", 0, 1, 1, 9), customer("b", 2, 1, 1, 9)), []int{2}, true},
		{with(pairs, customer("a", 0, 1, 1, 9), customer("b", 2, 1, 1, 9), customer("c", 1, 1, 1, 9)), []int{0, 1}, true},
		{with(pairs, customer("a", 0, 1, 1, 9), customer("b", 2, 1, 1, 9), customer("c", 0, 9, 9, 9)), []int{0, 2}, true},
		{with(pairs, customer("a", 0, 1, 1, 9), customer("b", 2, 9, 9, 9), customer("c", 2, 9, 9, 9)), []int{0, 1, 2}, true},
		{with(pairs, customer("a", 0, 1, 1, 9), customer("b", 2, 1, 1, 9), customer("c", 2, 9, 9, 9)), []int{1, 2}, true},
		{with(pairs, customer("a", 3, 1, 1, 240)), nil, false},
		// by when they are free, at the latest
		{by(plain(0, 0, waits{1, 5}), writer("x", 1, 0, 5), writer("y", 1, 4, 4)), []int{1}, true},
		{by(plain(0, 0, waits{1, 5}, waits{2, 5}), writer("x", 1, 0, 5), writer("y", 1, 4, 4), writer("z", 1, 2, 3)), []int{1, 2}, true},
		{by(plain(0, 0, waits{1, 5}, waits{2, 5}), writer("x", 1, 0, 5), writer("y", 1, 4, 4), writer("z", 1, 0, 2)), []int{2}, true},
		{by(plain(0, 0, waits{1, 240}), writer("x", 1, 240, 240), writer("y", 1, 239, 239)), []int{1}, true},
	} {
		if l, found := enoughOf(t, c.h); !slices.Equal(l, c.want) || found != c.found {
			t.Errorf("%d: Enough = %v, %t", i, l, found)
		}
	}
}

// P9.5
func TestAway(t *testing.T) {
	for i, c := range []struct {
		h    api.DeHall
		want []int
	}{
		{plain(5, 0), nil},
		{plain(5, 3), nil},
		{plain(0, 0, waits{1, 240}), []int{0}},
		{plain(0, 0, waits{1, 240}, waits{1, 240}, waits{1, 240}), []int{0, 1, 2}},
		{plain(0, 1, waits{1, 1}), nil},
		{plain(0, 1, waits{2, 1}), []int{0}},
		{plain(0, 1, waits{2, 5}, waits{3, 5}), nil},
		{plain(0, 1, waits{2, 4}, waits{3, 4}), []int{0}},
		{plain(0, 1, waits{2, 4}, waits{3, 2}), []int{1}},
		{plain(0, 1, waits{2, 4}, waits{3, 4}, waits{2, 4}), []int{1}},
		{plain(1, 1, waits{2, 4}, waits{3, 4}, waits{2, 4}), []int{0, 1}},
		{plain(0, 1, waits{2, 4}, waits{3, 4}, waits{2, 3}), []int{1}},
		{plain(0, 1, waits{4, 4}, waits{1, 4}, waits{1, 4}, waits{1, 4}, waits{1, 4}), []int{0}},
		{plain(0, 1, waits{1, 4}, waits{1, 4}, waits{1, 4}, waits{1, 4}, waits{1, 4}), []int{0}},
		{plain(0, 1, waits{2, 4}, waits{2, 4}, waits{2, 4}, waits{1, 4}, waits{2, 4}), []int{0, 1, 2}},
		{plain(0, 2, waits{2, 4}, waits{2, 4}, waits{2, 4}, waits{1, 4}, waits{2, 4}), []int{0}},
		{plain(0, 2, waits{2, 4}, waits{2, 4}, waits{2, 4}, waits{5, 4}, waits{2, 4}), []int{3}},
		{plain(0, 3, waits{2, 4}, waits{2, 4}, waits{2, 4}, waits{1, 4}, waits{2, 4}), nil},
		{with(plain(0, 1, waits{1, 9}), customer("y", 3, 1, 1, 0), customer("z", 3, 1, 9, 9)), []int{0, 1}},
		{with(plain(0, 1, waits{1, 9}), customer("y", 3, 1, 1, 0), customer("z", 3, 1, 9, 8)), []int{1, 2}},
		{with(by(plain(0, 0), writer("x", 7, 0, 0)), customer("a", 3, 1, 1, 9), customer("b", 2, 1, 1, 9)), []int{0}},
		// at the latest
		{with(by(plain(0, 0), writer("x", 1, 0, 4)), customer("a", 0, 1, 5, 8), customer("b", 0, 1, 4, 8)), []int{0}},
	} {
		if l := must[[]int](t)(desk.Away(c.h)); !slices.Equal(l, c.want) {
			t.Errorf("%d: Away = %v", i, l)
		}
	}
}

// P9.6
func TestLater(t *testing.T) {
	for i, c := range []struct {
		h    api.DeHall
		want []int
	}{
		{plain(0, 0, waits{1, 240}), []int{never}},
		{plain(0, 1, waits{1, 1}), []int{0}},
		{plain(0, 1, waits{1, 0}), []int{1}},
		{plain(5, 1, waits{30, 0}), []int{35}},
		{plain(5, 1, waits{30, 34}), []int{1}},
		{plain(5, 1, waits{30, 35}), []int{0}},
		{plain(0, 1, waits{2, 5}, waits{3, 5}), []int{0, 0}},
		{plain(0, 1, waits{2, 4}, waits{3, 4}), []int{1, 1}},
		{plain(0, 1, waits{2, 2}, waits{3, 3}), []int{3, 2}},
		{plain(1, 1, waits{2, 4}, waits{3, 4}), []int{3, 3}},
		{plain(0, 2, waits{2, 3}, waits{3, 3}, waits{3, 3}), []int{2, 2, 2}},
		{plain(0, 2, waits{1, 3}, waits{3, 3}, waits{3, 3}), []int{1, 1, 1}},
		// others cannot be in time
		{plain(0, 1, waits{2, 1}, waits{3, 3}), []int{4, never}},
		{plain(0, 1, waits{2, 1}, waits{3, 2}), []int{never, never}},
		{plain(0, 1, waits{2, 1}, waits{3, 5}), []int{1, never}},
		{plain(0, 1, waits{2, 1}, waits{3, 3}, waits{1, 240}), []int{4, never, never}},
		{plain(0, 1, waits{2, 2}, waits{3, 3}, waits{1, 240}), []int{3, 2, never}},
		{with(plain(0, 1, waits{1, 0}), customer("y", 0, 1, 1, 9)), []int{1, never}},
		{with(by(plain(0, 0, waits{1, 0}), writer("x", 3, 0, 0)), customer("y", 2, 1, 1, 9)), []int{never, never}},
		// the last minute
		{by(plain(0, 0, waits{1, 0}), writer("x", 1, 0, 239)), []int{240}},
		{by(plain(0, 0, waits{1, 0}), writer("x", 1, 0, 240)), []int{never}},
		{by(plain(0, 0, waits{1, 240}), writer("x", 1, 240, 240)), []int{never}},
		{by(plain(0, 0, waits{1, 239}), writer("x", 1, 239, 239)), []int{1}},
		{by(plain(0, 0, waits{2, 239}), writer("x", 1, 239, 239)), []int{never}},
		{by(plain(5, 0, waits{30, 200}, waits{20, 200}), writer("x", 1, 100, 180)), []int{never, never}},
		{by(plain(5, 0, waits{30, 200}, waits{20, 200}), writer("x", 1, 100, 175)), []int{35, never}},
		{by(plain(5, 0, waits{30, 200}, waits{20, 200}), writer("x", 1, 100, 176)), []int{never, never}},
		{by(plain(0, 0, waits{30, 200}, waits{20, 200}), writer("x", 1, 100, 170)), []int{20, 20}},
	} {
		for customer, want := range c.want {
			if more := orNever(t)(desk.Later(c.h, customer)); more != want {
				t.Errorf("%d: Later of %d = %d", i, customer, more)
			}
		}
	}
}

// the chapter's examples
func TestExamples(t *testing.T) {
	h, f, p := exampleH(), exampleF(), exampleP()
	if l := must[[]api.Span](t)(desk.Ends(h, p)); !slices.Equal(l, []api.Span{span(13, 20), span(7, 11), span(7, 11)}) {
		t.Errorf("Ends = %v", l)
	}
	one, two, three := must[int](t)(desk.Fate(h, p)), must[int](t)(desk.Fate(f, p)), must[int](t)(desk.Fate(f, [][]int{{0, 1}, {2}}))
	if one != api.Must || two != api.May || three != api.Never {
		t.Errorf("Fate = %d, %d, %d", one, two, three)
	}
	if one, two := orNever(t)(desk.Late(f, p)), orNever(t)(desk.Late(h, p)); one != 0 || two != never {
		t.Errorf("Late = %d, %d", one, two)
	}
	plan, over := bestOf(t, h)
	if _, none := bestOf(t, f); !samePlan(plan, p) || over != 20 || none != never {
		t.Errorf("Best = %v, %d; %d", plan, over, none)
	}
	if enough, away := must[[]int](t)(desk.Enough(h)), must[[]int](t)(desk.Away(f)); !slices.Equal(enough, []int{0, 1}) || !slices.Equal(away, []int{0}) {
		t.Errorf("Enough = %v, Away = %v", enough, away)
	}
	if more := orNever(t)(desk.Later(h, 0)); more != 0 {
		t.Errorf("Later of H = %d", more)
	}
	for customer, want := range []int{3, 6, 3} {
		if more := orNever(t)(desk.Later(f, customer)); more != want {
			t.Errorf("Later of F: %d = %d", customer, more)
		}
	}
}
