package game_test

import (
	"math/rand/v2"
	"slices"
	"testing"

	"aloeswood/api"
	"aloeswood/game"
)

// The deals, by their kinds.

func trial(wood int) api.Deal { return api.Deal{Kind: api.DealTrial, Wood: wood} }

func mix(bag, wood, count int) api.Deal {
	return api.Deal{Kind: api.DealMix, Bag: bag, Wood: wood, Count: count}
}

func pour(bag, other int) api.Deal { return api.Deal{Kind: api.DealPour, Bag: bag, Other: other} }

func aside(bag, count int) api.Deal { return api.Deal{Kind: api.DealAside, Bag: bag, Count: count} }

func pass(bag, count int) api.Deal { return api.Deal{Kind: api.DealPass, Bag: bag, Count: count} }

func place(wood int) api.Deal { return api.Deal{Kind: api.DealPlace, Wood: wood} }

// with returns a game of so many woods (a, b, and so on, of the families 1, 2, and so on) with some deals.
func with(woods int, deals ...api.Deal) api.Game {
	g := api.Game{Deals: deals}
	for i := range woods {
		g.Woods = append(g.Woods, api.Wood{Name: string(rune('a' + i)), Family: i + 1})
	}
	return g
}

// example is the game G of the chapter.
func example() api.Game {
	return with(3, trial(0), trial(1), mix(0, 0, 2), mix(0, 1, 1), mix(0, 2, 1), pass(0, 3))
}

// brim is a game with as many courses as there may be: 20 for the first two censers, and 250 for the others.
func brim() api.Game {
	return with(5, mix(0, 0, 1), mix(0, 1, 1), mix(0, 2, 1), mix(0, 3, 1), mix(0, 4, 1), mix(1, 0, 3), mix(1, 1, 2), mix(1, 2, 1), mix(1, 3, 1), pass(0, 2), pass(1, 5))
}

// must fails the test unless there was no error.
func must[T any](t *testing.T) func(v T, e api.Errno) T {
	return func(v T, e api.Errno) T {
		t.Helper()
		if e != api.OK {
			t.Fatal("unexpected", e)
		}
		return v
	}
}

// listed returns two lists that belong together, of which there is no error.
func listed(t *testing.T, l [][]int, ways []int, e api.Errno) ([][]int, []int) {
	t.Helper()
	if e != api.OK || len(l) != len(ways) {
		t.Fatal("unexpected", e, len(l), len(ways))
	}
	return l, ways
}

// counted returns the ways of a course, and of the game.
func counted(t *testing.T, g api.Game, course []int) (ways, all int) {
	t.Helper()
	ways, all, e := game.Ways(g, course)
	if e != api.OK {
		t.Fatal("unexpected", e, g, course)
	}
	return ways, all
}

// same tells whether two lists of lists are equal.
func same(a, b [][]int) bool { return slices.EqualFunc(a, b, slices.Equal[[]int]) }

// sum returns the sum of numbers.
func sum(numbers []int) int {
	s := 0
	for _, n := range numbers {
		s += n
	}
	return s
}

// asks returns all asks for a game.
func asks(g api.Game) []api.Ask {
	l := []api.Ask{{Kind: api.AskSame}, {Kind: api.AskNew}, {Kind: api.AskName}, {Kind: api.AskFirst}, {Kind: api.AskCount}}
	for wood := range g.Woods {
		l = append(l, api.Ask{Kind: api.AskWhich, Wood: wood})
	}
	return l
}

// lots are packets that lie in the bags, in the order of their woods.
type lots [api.MaxBags][]int

// each plays deals in each way that there is, packet by packet, and says the picks and the course of each one.
func each(deals []api.Deal, in lots, picks, course []int, said func(picks, course []int)) {
	if len(deals) == 0 {
		said(picks, course)
		return
	}
	d, behind := deals[0], deals[1:]
	switch d.Kind {
	case api.DealMix:
		in[d.Bag] = slices.Sorted(slices.Values(slices.Concat(in[d.Bag], slices.Repeat([]int{d.Wood}, d.Count))))
	case api.DealPour:
		in[d.Other] = slices.Sorted(slices.Values(slices.Concat(in[d.Other], in[d.Bag])))
		in[d.Bag] = nil
	case api.DealPlace:
		course = append(slices.Clone(course), d.Wood)
	case api.DealAside, api.DealPass:
		if d.Count--; d.Count > 0 {
			behind = slices.Concat([]api.Deal{d}, behind)
		}
		for pick, wood := range in[d.Bag] {
			left, longer := in, course
			left[d.Bag] = slices.Delete(slices.Clone(in[d.Bag]), pick, pick+1)
			if d.Kind == api.DealPass {
				longer = append(slices.Clone(course), wood)
			}
			each(behind, left, append(slices.Clone(picks), pick), longer, said)
		}
		return
	}
	each(behind, in, picks, course, said)
}

// maker makes games that are valid, and takes care that they have not too many ways.
type maker struct {
	*rand.Rand
	g                         api.Game
	inside                    [api.MaxBags]int
	mixed, censers, all, most int
}

// games returns so many games, the same ones each time, with at most so many ways each. None of them uses the bag 3.
func games(count, most int) []api.Game {
	random := rand.New(rand.NewPCG(7, 11))
	var l []api.Game
	for range count {
		m := maker{Rand: random, g: with(2 + random.IntN(4)), all: 1, most: most}
		for wood := range m.g.Woods {
			if m.IntN(2) == 0 {
				m.g.Deals = append(m.g.Deals, trial(wood))
			}
		}
		for range 2 + m.IntN(3) {
			m.mix()
		}
		for range 2 + m.IntN(6) {
			m.add()
		}
		if m.censers == 0 {
			m.g.Deals = append(m.g.Deals, place(m.IntN(len(m.g.Woods))))
		}
		l = append(l, m.g)
	}
	return l
}

// mix adds packets, if there may be so many.
func (m *maker) mix() {
	bag, wood, count := m.IntN(2), m.IntN(len(m.g.Woods)), 1+m.IntN(2)
	if m.mixed+count <= api.MaxStock {
		m.mixed += count
		m.inside[bag] += count
		m.g.Deals = append(m.g.Deals, mix(bag, wood, count))
	}
}

// add adds a deal, if that is valid.
func (m *maker) add() {
	bag, other, count := m.IntN(2), 1+m.IntN(2), 1+m.IntN(3)
	switch kind := m.IntN(12); {
	case kind < 2:
		m.mix()
	case kind < 4 && bag != other:
		m.inside[other] += m.inside[bag]
		m.inside[bag] = 0
		// What was poured into the bag 2 comes back sometimes.
		m.g.Deals = append(m.g.Deals, pour(bag, other))
		if other == 2 && m.IntN(2) == 0 {
			m.inside[0] += m.inside[2]
			m.inside[2] = 0
			m.g.Deals = append(m.g.Deals, pour(2, 0))
		}
	case (kind == 4 || kind == 11) && m.draw(bag, count):
		m.g.Deals = append(m.g.Deals, aside(bag, count))
	case kind == 5 && m.censers < 6:
		m.censers++
		m.g.Deals = append(m.g.Deals, place(m.IntN(len(m.g.Woods))))
	case kind > 5 && kind < 11 && m.censers+count <= 6 && m.draw(bag, count):
		m.censers += count
		m.g.Deals = append(m.g.Deals, pass(bag, count))
	}
}

// draw tells whether packets can be drawn so that there are not too many ways; if so, it draws them.
func (m *maker) draw(bag, count int) bool {
	all := m.all
	for i := range count {
		all *= m.inside[bag] - i
	}
	if m.inside[bag] < count || all > m.most {
		return false
	}
	m.all = all
	m.inside[bag] -= count
	return true
}
