package game_test

import (
	"math"
	"slices"
	"strings"
	"testing"

	"aloeswood/api"
	"aloeswood/game"
)

// calls returns the functions of the package, each with what it returns for these arguments: its error, and whether all else is zero.
func calls(g api.Game, a api.Ask, list []int, text string) map[string]func() (api.Errno, bool) {
	one := func(l []int, e api.Errno) (api.Errno, bool) { return e, len(l) == 0 }
	many := func(l [][]int, ways []int, e api.Errno) (api.Errno, bool) { return e, len(l)+len(ways) == 0 }
	return map[string]func() (api.Errno, bool){
		"Check":   func() (api.Errno, bool) { return game.Check(g), true },
		"Play":    func() (api.Errno, bool) { return one(game.Play(g, list)) },
		"Ways":    func() (api.Errno, bool) { ways, all, e := game.Ways(g, list); return e, ways == 0 && all == 0 },
		"Courses": func() (api.Errno, bool) { return many(game.Courses(g)) },
		"Due":     func() (api.Errno, bool) { return one(game.Due(g, a, list)) },
		"Answers": func() (api.Errno, bool) { return many(game.Answers(g, a)) },
		"Write":   func() (api.Errno, bool) { s, e := game.Write(g); return e, s == "" },
		"Read": func() (api.Errno, bool) {
			g, row, e := game.Read(text)
			return e, len(g.Woods)+len(g.Deals) == 0 && (row == 0 || e == api.ErrForm)
		},
	}
}

// strange returns games with any values in their fields.
func strange() []api.Game {
	numbers := []int{math.MinInt, -1, 0, 1, 3, 4, 12, 13, math.MaxInt}
	l := []api.Game{{}, example(), brim(), with(6), with(100000, place(0)), with(1, make([]api.Deal, 100000)...), {Woods: []api.Wood{{Name: strings.Repeat("a", 100000)}}}, {Woods: []api.Wood{{Name: "\xff\x00"}}}, {Woods: []api.Wood{{Name: "a", Family: math.MinInt}}}}
	for kind := -1; kind <= 7; kind++ {
		for i, n := range numbers {
			m := numbers[(i+kind+4)%len(numbers)]
			for _, d := range []api.Deal{{Kind: kind, Bag: n}, {Kind: kind, Other: n}, {Kind: kind, Wood: n}, {Kind: kind, Count: n}, {Kind: kind, Bag: 1, Count: n}, {Kind: kind, Bag: n, Other: m}, {Kind: kind, Bag: n, Wood: m, Count: 1}, {Kind: kind, Bag: n, Count: m}, {Kind: n, Bag: m, Other: m, Wood: m, Count: m}} {
				l = append(l, with(3, mix(1, 0, 4), mix(0, 1, 3), d, pass(1, 2), d))
			}
		}
	}
	return l
}

// P1, R3, R5: no argument makes a function panic, and all is zero beside an error.
func TestAnyArguments(t *testing.T) {
	lists := [][]int{nil, {}, {0, 0}, {0, 1}, {-1, 0}, {math.MinInt, math.MaxInt}, {0, 0, 0}, {0, 9, 0}, make([]int, 7), make([]int, 100000)}
	texts := []string{"", "\n", " ", "wood", "wood a 0\nplace 0\n", "\x00\xff", strings.Repeat("\n", 2000), strings.Repeat(" ", 2000), strings.Repeat("place 0\n", 250), strings.Repeat("wood a 0\n", 100000)}
	numbers := []int{math.MinInt, -1, 0, 1, 3, math.MaxInt}
	for i, g := range strange() {
		for j, list := range lists {
			for kind := -1; kind <= 8; kind++ {
				for function, call := range calls(g, api.Ask{Kind: kind, Wood: numbers[(i+j+kind+1)%len(numbers)]}, list, texts[(i+j+kind+1)%len(texts)]) {
					if function == "Courses" && kind > 0 || function == "Answers" && j > 0 {
						continue // They have been called so.
					}
					if e, zero := call(); e != api.OK && !zero {
						t.Fatal(function, g, list, kind, e)
					}
				}
			}
		}
	}
}

// R4: a nil slice and an empty one are equal.
func TestNilAndEmptyAreEqual(t *testing.T) {
	empty := api.Game{Woods: []api.Wood{}, Deals: []api.Deal{}}
	for function, e := range refusals(empty) {
		if e != api.ErrShort {
			t.Error(function, e)
		}
	}
	g := with(1)
	g.Deals = []api.Deal{}
	if e := game.Check(g); e != api.ErrShort {
		t.Error(e)
	}
	if _, _, e := game.Ways(example(), []int{}); e != api.ErrForm {
		t.Error(e)
	}
}

// spoil changes all numbers of lists.
func spoil(lists ...[]int) {
	for _, l := range lists {
		for i := range l {
			l[i] = 77
		}
		// What is behind the end of a list must not be another one, either.
		for i := range l[:cap(l)] {
			l[:cap(l)][i] = 77
		}
	}
}

// R4: what is given is not changed, and what is returned is new each time, and shares nothing.
func TestArgumentsAndResultsAreApart(t *testing.T) {
	g, picks, course := example(), []int{0, 2, 1}, []int{0, 2, 0}
	for _, c := range calls(g, api.Ask{Kind: api.AskName}, course, "wood a 0\nplace 0\n") {
		c()
	}
	game.Play(g, picks)
	if h := example(); !slices.Equal(g.Woods, h.Woods) || !slices.Equal(g.Deals, h.Deals) || !slices.Equal(picks, []int{0, 2, 1}) || !slices.Equal(course, []int{0, 2, 0}) {
		t.Error(g, picks, course)
	}
	for _, a := range asks(g) {
		first := must[[]int](t)(game.Due(g, a, course))
		want := slices.Clone(first)
		spoil(first)
		if again := must[[]int](t)(game.Due(g, a, course)); !slices.Equal(again, want) || !slices.Equal(course, []int{0, 2, 0}) {
			t.Error(a, want, again, course)
		}
		answers, ways := answersOf(t, g, a)
		apart(t, append(answers, ways))
	}
	courses, ways := listedOf(t, g)
	apart(t, append(courses, ways))
	spoil(must[[]int](t)(game.Play(g, picks)))
	if !slices.Equal(picks, []int{0, 2, 1}) {
		t.Error(picks)
	}
	h, _, _ := game.Read(must[string](t)(game.Write(g)))
	h.Woods[0].Name, h.Deals[0] = "x", api.Deal{}
	if i, _, _ := game.Read(must[string](t)(game.Write(g))); !slices.Equal(i.Woods, g.Woods) || !slices.Equal(i.Deals, g.Deals) {
		t.Error(i)
	}
}

// apart fails the test if a change of one list changes another one.
func apart(t *testing.T, lists [][]int) {
	t.Helper()
	var want [][]int
	for _, l := range lists {
		want = append(want, slices.Clone(l))
	}
	for i, l := range lists {
		spoil(l)
		if !same(lists[i+1:], want[i+1:]) {
			t.Fatal(i, lists, want)
		}
	}
}

// Results do not depend on the order of a map: the same is returned each time.
func TestResultsAreTheSameEachTime(t *testing.T) {
	for _, g := range games(20, 2000) {
		courses, ways := listedOf(t, g)
		text := must[string](t)(game.Write(g))
		for range 5 {
			l, n := listedOf(t, g)
			if !same(l, courses) || !slices.Equal(n, ways) || must[string](t)(game.Write(g)) != text {
				t.Fatal(g)
			}
		}
	}
}
