package design_test

import (
	"math"
	"slices"
	"testing"

	"aloeswood/api"
	"aloeswood/design"
)

// input is what the functions of the package are called with.
type input struct {
	s            api.Stock
	list, limits []int
	n, m         int
	orders       [][]int
}

// calls returns the functions of the package, each with what it returns: its error, and whether all else is zero.
func (in input) calls() map[string]func() (api.Errno, bool) {
	list := func(l []int, e api.Errno) (api.Errno, bool) { return e, len(l) == 0 }
	number := func(n int, e api.Errno) (api.Errno, bool) { return e, n == 0 }
	both := func(l []int, n int, e api.Errno) (api.Errno, bool) { return e, len(l) == 0 && n == 0 }
	two := func(a, b int, e api.Errno) (api.Errno, bool) { return e, a == 0 && b == 0 }
	return map[string]func() (api.Errno, bool){
		"Check":       func() (api.Errno, bool) { return design.Check(in.s), true },
		"Ways":        func() (api.Errno, bool) { return number(design.Ways(in.s)) },
		"Chance":      func() (api.Errno, bool) { return number(design.Chance(in.s, in.list)) },
		"Shapes":      func() (api.Errno, bool) { return list(design.Shapes(in.s)) },
		"Guess":       func() (api.Errno, bool) { return both(design.Guess(in.s)) },
		"Rest":        func() (api.Errno, bool) { return both(design.Rest(in.s, in.list)) },
		"Counted":     func() (api.Errno, bool) { return two(design.Counted(in.s)) },
		"CheckOrders": func() (api.Errno, bool) { return design.CheckOrders(in.n, in.orders), true },
		"Fair":        func() (api.Errno, bool) { return two(design.Fair(in.n, in.orders)) },
		"Rounds":      func() (api.Errno, bool) { l, e := design.Rounds(in.n); return e, len(l) == 0 },
		"Turn":        func() (api.Errno, bool) { return list(design.Turn(in.n, in.orders)) },
		"Fairest": func() (api.Errno, bool) {
			l, ways, all, e := design.Fairest(in.limits, in.n, in.m)
			return e, len(l) == 0 && ways == 0 && all == 0
		},
	}
}

// strange returns arguments with any values.
func strange() []input {
	numbers := []int{math.MinInt, -1, 0, 1, 2, 3, 6, 9, 12, 13, math.MaxInt}
	lists := [][]int{nil, {}, {0}, {1}, {0, 1}, {1, 0}, {2, 2}, {0, 0, 1}, {0, 1, 2}, {2, 0, 1}, {3, 1}, {9, 9, 9, 9, 9, 9}, {1, 1, 1, 1, 1, 1, 1}, {-1, 2}, {math.MinInt, math.MaxInt}, {math.MaxInt, math.MaxInt, 2}, of("ABCDEFGHI"), make([]int, 9), make([]int, 10), make([]int, 100000)}
	var l []input
	for i := range 12000 {
		pick := func(step int) int { return numbers[(i/step+i)%len(numbers)] }
		list := func(step int) []int { return lists[(i/step+i)%len(lists)] }
		in := input{s: api.Stock{Counts: list(7), Draw: pick(3)}, list: list(2), limits: list(3), n: pick(2), m: pick(5)}
		switch i % 4 {
		case 0:
			in.s = stockS()
		case 1:
			in.s, in.n = stockU(), 3
		case 2:
			in.limits, in.m = []int{2, 3}, 2
		}
		for j := range i / 5 % 4 {
			in.orders = append(in.orders, list(2+j))
		}
		if i%1000 == 1 {
			in.orders = make([][]int, 100000)
		}
		l = append(l, in)
	}
	return l
}

// P1, R3, R5: no argument makes a function panic, and all is zero beside an error.
func TestAnyArguments(t *testing.T) {
	done, refused := map[string]int{}, map[string]int{}
	for _, in := range strange() {
		for function, call := range in.calls() {
			e, zero := call()
			if e != api.OK && !zero {
				t.Fatal(function, in, e)
			}
			if e == api.OK {
				done[function]++
			} else {
				refused[function]++
			}
		}
	}
	// All are called with what is valid as well.
	if len(done) < 12 || len(refused) < 12 {
		t.Error(done, refused)
	}
}

// R4: a nil slice and an empty one are equal.
func TestNilAndEmptyAreEqual(t *testing.T) {
	if e := design.Check(api.Stock{Counts: []int{}, Draw: 1}); e != api.ErrShort {
		t.Error(e)
	}
	if _, e := design.Chance(stockS(), []int{}); e != api.ErrShort {
		t.Error(e)
	}
	if kinds, sure := restOf(t, stock(2, 5), []int{}); !slices.Equal(kinds, []int{0}) || sure != 2 {
		t.Error(kinds, sure)
	}
	if _, _, _, e := design.Fairest([]int{}, 1, 1); e != api.ErrShort {
		t.Error(e)
	}
	if d := fairOf(t, 3, [][]int{}); d != [2]int{} {
		t.Error(d)
	}
	if order := must[[]int](t)(design.Turn(3, [][]int{})); !slices.Equal(order, []int{0, 1, 2}) {
		t.Error(order)
	}
	for _, order := range [][]int{nil, {}} {
		if e := design.CheckOrders(1, [][]int{order}); e != api.ErrForm {
			t.Error(e)
		}
	}
}

// spoil changes all numbers of lists, also those behind their ends.
func spoil(lists ...[]int) {
	for _, l := range lists {
		for i := range l[:cap(l)] {
			l[:cap(l)][i] = 77
		}
	}
}

// R4: what is given is not changed, and what is returned is new each time, and shares nothing.
func TestArgumentsAndResultsAreApart(t *testing.T) {
	in := input{s: stock(3, 3, 2, 1), list: of("ABA"), limits: []int{4, 4}, n: 3, m: 2, orders: [][]int{{0, 1, 2}, {1, 2, 0}}}
	given := func() [][]int { return append(copied(in.orders), in.s.Counts, in.list, in.limits) }
	want := copied(given())
	for _, one := range [][]int{of("ABA"), {0, 1}, {2, 0, 0}} {
		in.list = one
		want[3] = slices.Clone(one)
		for _, call := range in.calls() {
			call()
		}
		if !same(given(), want) {
			t.Fatal(given(), want)
		}
	}
	for function, call := range map[string]func() []int{
		"Shapes":  func() []int { return must[[]int](t)(design.Shapes(in.s)) },
		"Guess":   func() []int { p, _ := guessOf(t, in.s); return p },
		"Rest":    func() []int { kinds, _ := restOf(t, in.s, []int{0, 1}); return kinds },
		"Fairest": func() []int { counts, _, _, _ := design.Fairest(in.limits, 4, 2); return counts },
		"Turn":    func() []int { return must[[]int](t)(design.Turn(3, in.orders)) },
		// There are no orders yet, so the next one is one of no others.
		"Turn of none": func() []int { return must[[]int](t)(design.Turn(3, nil)) },
	} {
		first := call()
		kept := slices.Clone(first)
		second := call()
		spoil(first)
		if !slices.Equal(second, kept) || !slices.Equal(call(), kept) || len(kept) == 0 || !same(given(), want) {
			t.Error(function, kept, second, given())
		}
	}
}

// R4: the orders of a round share nothing, neither with each other nor with those of another call.
func TestRoundsAreApart(t *testing.T) {
	for n := 1; n <= 12; n++ {
		orders := must[[][]int](t)(design.Rounds(n))
		want := copied(orders)
		for i, order := range orders {
			spoil(order)
			if !same(orders[i+1:], want[i+1:]) || !same(must[[][]int](t)(design.Rounds(n)), want) {
				t.Fatal(n, i)
			}
		}
	}
}

// The same is returned each time.
func TestResultsAreTheSameEachTime(t *testing.T) {
	for _, s := range stocks(5) {
		l := must[[]int](t)(design.Shapes(s))
		p, ways := guessOf(t, s)
		counts, least, _, e := design.Fairest(s.Counts, sum(s.Counts), s.Draw)
		for range 5 {
			again, n := guessOf(t, s)
			others, m, _, f := design.Fairest(s.Counts, sum(s.Counts), s.Draw)
			if !slices.Equal(must[[]int](t)(design.Shapes(s)), l) || !slices.Equal(again, p) || n != ways || !slices.Equal(counts, others) || least != m || e != f {
				t.Fatal(s)
			}
		}
	}
}
