package know_test

import (
	"iter"
	"maps"
	"math/rand/v2"
	"slices"
	"testing"

	"aloeswood/api"
	"aloeswood/game"
	"aloeswood/know"
)

// The deals, by their kinds.

func trial(wood int) api.Deal { return api.Deal{Kind: api.DealTrial, Wood: wood} }

func mix(bag, wood, count int) api.Deal {
	return api.Deal{Kind: api.DealMix, Bag: bag, Wood: wood, Count: count}
}

func pour(bag, other int) api.Deal { return api.Deal{Kind: api.DealPour, Bag: bag, Other: other} }

func aside(bag, count int) api.Deal { return api.Deal{Kind: api.DealAside, Bag: bag, Count: count} }

func pass(bag, count int) api.Deal { return api.Deal{Kind: api.DealPass, Bag: bag, Count: count} }

func place(wood int) api.Deal { return api.Deal{Kind: api.DealPlace, Wood: wood} }

// with returns a game of so many woods with some deals.
func with(woods int, deals ...api.Deal) api.Game {
	g := api.Game{Deals: deals}
	for i := range woods {
		g.Woods = append(g.Woods, api.Wood{Name: string(rune('a' + i)), Family: i + 1})
	}
	return g
}

// example is the game G of the chapter.
func example() api.Game {
	return with(3, trial(0), trial(1), mix(0, 0, 2), mix(0, 1, 1), mix(0, 2, 1), pass(0, 3))
}

// brim is a game with as many courses as there may be.
func brim() api.Game {
	return with(5, mix(0, 0, 1), mix(0, 1, 1), mix(0, 2, 1), mix(0, 3, 1), mix(0, 4, 1), mix(1, 0, 3), mix(1, 1, 2), mix(1, 2, 1), mix(1, 3, 1), pass(0, 2), pass(1, 5))
}

// over is a game with more courses than there may be.
func over() api.Game {
	return with(6, mix(0, 0, 2), mix(0, 1, 2), mix(0, 2, 2), mix(0, 3, 2), mix(0, 4, 2), mix(0, 5, 2), pass(0, 5))
}

// full is a game with one course that has as many ways as there may be.
func full(passed int) api.Game {
	g := with(1, mix(0, 0, 12), pass(0, passed))
	if passed < 12 {
		g.Deals = append(g.Deals, aside(0, 12-passed))
	}
	return g
}

// factorial12 is in how many ways 12 packets are drawn.
const factorial12 = 479001600

// nose is the nose N of the chapter.
func nose() api.Nose { return api.Nose{Take: [][]int{{7, 3, 0}, {3, 7, 0}, {0, 0, 10}}} }

// sharp is a nose for so many woods that never errs.
func sharp(woods int) api.Nose {
	var n api.Nose
	for wood := range woods {
		row := make([]int, woods)
		row[wood] = 10
		n.Take = append(n.Take, row)
	}
	return n
}

// dull is a nose that tells nothing: each wood smells so to it.
func dull(row ...int) api.Nose {
	var n api.Nose
	for range row {
		n.Take = append(n.Take, slices.Clone(row))
	}
	return n
}

// mindM is the mind M of the chapter, mindK the mind K.
func mindM() api.Mind {
	return api.Mind{Game: example(), Noses: []api.Nose{nose()}, Smells: []api.Smell{{Censer: 0, Wood: 0}, {Censer: 1, Wood: 2}}}
}

func mindK() api.Mind {
	m := mindM()
	m.Smells = append(m.Smells, api.Smell{Censer: 2, Wood: 0})
	return m
}

// told returns a mind with some more facts.
func told(m api.Mind, facts ...api.Fact) api.Mind {
	m.Facts = slices.Concat(m.Facts, facts)
	return m
}

// The facts, by their kinds.

func is(a, b int) api.Fact { return api.Fact{Kind: api.FactIs, A: a, B: b} }

func not(a, b int) api.Fact { return api.Fact{Kind: api.FactNot, A: a, B: b} }

func alike(a, b int) api.Fact { return api.Fact{Kind: api.FactSame, A: a, B: b} }

func other(a, b int) api.Fact { return api.Fact{Kind: api.FactOther, A: a, B: b} }

// asks returns all asks for a game.
func asks(g api.Game) []api.Ask {
	l := []api.Ask{{Kind: api.AskSame}, {Kind: api.AskNew}, {Kind: api.AskName}, {Kind: api.AskFirst}, {Kind: api.AskCount}}
	for wood := range g.Woods {
		l = append(l, api.Ask{Kind: api.AskWhich, Wood: wood})
	}
	return l
}

// rules are the rules by which answers are worth points.
func rules() []int { return []int{api.PointWhole, api.PointEach} }

// same tells whether two lists of lists are equal.
func same(a, b [][]int) bool { return slices.EqualFunc(a, b, slices.Equal[[]int]) }

// equal tells whether two minds are equal.
func equal(a, b api.Mind) bool {
	return slices.Equal(a.Game.Woods, b.Game.Woods) && slices.Equal(a.Game.Deals, b.Game.Deals) &&
		slices.EqualFunc(a.Noses, b.Noses, func(x, y api.Nose) bool { return same(x.Take, y.Take) }) &&
		slices.Equal(a.Smells, b.Smells) && slices.Equal(a.Facts, b.Facts)
}

// copied returns a mind that is equal, and apart.
func copied(m api.Mind) api.Mind {
	c := api.Mind{Game: api.Game{Woods: slices.Clone(m.Game.Woods), Deals: slices.Clone(m.Game.Deals)}, Smells: slices.Clone(m.Smells), Facts: slices.Clone(m.Facts)}
	for _, n := range m.Noses {
		var take [][]int
		for _, row := range n.Take {
			take = append(take, slices.Clone(row))
		}
		c.Noses = append(c.Noses, api.Nose{Take: take})
	}
	return c
}

// sum returns the sum of numbers.
func sum(numbers []int) int {
	s := 0
	for _, n := range numbers {
		s += n
	}
	return s
}

// power returns the product of so many equal numbers.
func power(number, times int) int {
	if times == 0 {
		return 1
	}
	return number * power(number, times-1)
}

// must fails the test unless there was no error.
func must[T any](t *testing.T) func(v T, e api.Errno) T {
	return func(v T, e api.Errno) T {
		t.Helper()
		if e != api.OK {
			t.Fatal("unexpected", e)
		}
		return v
	}
}

// leftOf returns the courses that are left, and their weights.
func leftOf(t *testing.T, m api.Mind) ([][]int, []int) {
	t.Helper()
	l, weights, e := know.Left(m)
	if e != api.OK || len(l) != len(weights) || len(l) == 0 {
		t.Fatal("unexpected", e, m, l, weights)
	}
	return l, weights
}

// bestOf returns the best answer, and what it is worth.
func bestOf(t *testing.T, m api.Mind, a api.Ask, rule int) (answer []int, sum, of int) {
	t.Helper()
	answer, sum, of, e := know.Best(m, a, rule)
	if e != api.OK {
		t.Fatal("unexpected", e, m, a, rule)
	}
	return answer, sum, of
}

// skillOf returns what a nose is worth.
func skillOf(t *testing.T, g api.Game, n api.Nose, a api.Ask, rule int) (sum, of int) {
	t.Helper()
	sum, of, e := know.Skill(g, n, a, rule)
	if e != api.OK {
		t.Fatal("unexpected", e, g, n, a, rule)
	}
	return sum, of
}

// answersOf returns all answers of a game to an ask.
func answersOf(t *testing.T, g api.Game, a api.Ask) [][]int {
	t.Helper()
	answers, _, e := game.Answers(g, a)
	if e != api.OK {
		t.Fatal("unexpected", e, g, a)
	}
	return answers
}

// choices returns for each packet that is drawn in a game of how many it is one.
func choices(g api.Game) []int {
	var inside [api.MaxBags]int
	var l []int
	for _, d := range g.Deals {
		switch d.Kind {
		case api.DealMix:
			inside[d.Bag] += d.Count
		case api.DealPour:
			inside[d.Other] += inside[d.Bag]
			inside[d.Bag] = 0
		case api.DealAside, api.DealPass:
			for range d.Count {
				l = append(l, inside[d.Bag])
				inside[d.Bag]--
			}
		}
	}
	return l
}

// every hands out all lists of numbers from 0 on, each below its bound.
func every(below []int) iter.Seq[[]int] {
	return func(yield func([]int) bool) {
		if len(below) == 0 {
			yield(nil)
			return
		}
		for first := range below[0] {
			for behind := range every(below[1:]) {
				if !yield(append([]int{first}, behind...)) {
					return
				}
			}
		}
	}
}

// woodLists hands out all lists of so many woods.
func woodLists(woods, length int) iter.Seq[[]int] {
	return every(slices.Repeat([]int{woods}, length))
}

// isSo tells whether a fact is so in a course, as the chapter says it.
func isSo(f api.Fact, course []int) bool {
	return map[int]bool{
		api.FactIs:    course[f.A] == f.B,
		api.FactNot:   course[f.A] != f.B,
		api.FactSame:  f.B < len(course) && course[f.A] == course[f.B],
		api.FactOther: f.B < len(course) && course[f.A] != course[f.B],
	}[f.Kind]
}

// cases returns in how many cases all is smelled in a course that was; 0 if a fact is not so.
func cases(m api.Mind, course []int) int {
	product := 1
	for _, s := range m.Smells {
		product *= m.Noses[s.Nose].Take[course[s.Censer]][s.Wood]
	}
	for _, f := range m.Facts {
		if !isSo(f, course) {
			return 0
		}
	}
	return product
}

// judged returns the courses that are left, in order, and their weights: all lists of picks are played.
func judged(t *testing.T, m api.Mind) (l [][]int, weights []int) {
	t.Helper()
	tally := map[string]int{}
	for picks := range every(choices(m.Game)) {
		course := must[[]int](t)(game.Play(m.Game, picks))
		if n := cases(m, course); n > 0 {
			key := ""
			for _, wood := range course {
				key += string(rune('0' + wood))
			}
			tally[key] += n
		}
	}
	for _, key := range slices.Sorted(maps.Keys(tally)) {
		var course []int
		for _, wood := range key {
			course = append(course, int(wood-'0'))
		}
		l, weights = append(l, course), append(weights, tally[key])
	}
	return l, weights
}

// worth is what an answer is worth if another one is due, as the chapter says it.
func worth(a api.Ask, rule, censers int, answer, due []int) int {
	n := 0
	count := func(is bool) {
		if is {
			n++
		}
	}
	switch {
	case rule == api.PointWhole:
		count(slices.Equal(answer, due))
	case a.Kind == api.AskSame:
		for j := range censers {
			for i := range j {
				count((answer[i] == answer[j]) == (due[i] == due[j]))
			}
		}
	case a.Kind == api.AskNew || a.Kind == api.AskWhich:
		for censer := range censers {
			count(slices.Contains(answer, censer) == slices.Contains(due, censer))
		}
	default:
		for i := 0; i < len(answer) && i < len(due); i++ {
			count(answer[i] == due[i])
		}
	}
	return n
}

// aGame returns some game with at least two woods, with 1 to so many censers, and at most so many ways.
func aGame(random *rand.Rand, censers, most int) api.Game {
	woods := 2 + random.IntN(3)
	g := with(woods)
	for wood := range woods {
		if random.IntN(2) == 0 {
			g.Deals = append(g.Deals, trial(wood))
		}
	}
	for range 2 + random.IntN(3) {
		g.Deals = append(g.Deals, mix(random.IntN(4)/3, random.IntN(woods), 1+random.IntN(2)))
	}
	for range 1 + random.IntN(6) {
		wood, bag, count := random.IntN(woods), random.IntN(2), 1+random.IntN(3)
		d := [...]api.Deal{mix(bag, wood, 1), pour(bag, 1-bag), aside(bag, 1), pass(0, count), pass(0, count), pass(bag, count), place(wood)}[random.IntN(7)]
		longer := api.Game{Woods: g.Woods, Deals: append(slices.Clone(g.Deals), d)}
		if fits(longer, censers-1, most) {
			g = longer
		}
	}
	g.Deals = append(g.Deals, place(random.IntN(woods)))
	if short := (api.Game{Woods: g.Woods, Deals: g.Deals[:len(g.Deals)-1]}); random.IntN(4) > 0 && game.Check(short) == api.OK {
		return short
	}
	return g
}

// fits tells whether the deals of a game can be done, with at most so many censers, and so many ways.
func fits(g api.Game, censers, most int) bool {
	ended := api.Game{Woods: g.Woods, Deals: append(slices.Clone(g.Deals), place(0))}
	if game.Check(ended) != api.OK {
		return false
	}
	ways, passed := 1, 0
	for _, n := range choices(g) {
		ways *= n
	}
	for _, d := range g.Deals {
		switch d.Kind {
		case api.DealPass:
			passed += d.Count
		case api.DealPlace:
			passed++
		}
	}
	return passed <= censers && ways <= most
}

// censersOf returns how many censers a game has.
func censersOf(t *testing.T, g api.Game) int {
	t.Helper()
	return len(must[[]int](t)(game.Play(g, make([]int, len(choices(g))))))
}

// aNose returns some nose for so many woods: one that errs, one that never does, or one that tells nothing.
func aNose(random *rand.Rand, woods int) api.Nose {
	row := func() []int {
		l := make([]int, woods)
		for range 10 {
			l[random.IntN(1+random.IntN(woods))]++
		}
		random.Shuffle(woods, func(i, j int) { l[i], l[j] = l[j], l[i] })
		return l
	}
	switch random.IntN(6) {
	case 0:
		return sharp(woods)
	case 1:
		return dull(row()...)
	}
	var n api.Nose
	for range woods {
		n.Take = append(n.Take, row())
	}
	return n
}

// sniffed returns some wood for which a nose takes a wood, in as many of ten cases as it does.
func sniffed(random *rand.Rand, n api.Nose, wood int) int {
	at := random.IntN(10)
	for smelled, cases := range n.Take[wood] {
		if at < cases {
			return smelled
		}
		at -= cases
	}
	panic("a row without ten cases")
}

// trueMind is a mind, and the course that really comes.
type trueMind struct {
	api.Mind
	truth []int
}

// minds returns so many minds, the same ones each time: what was smelled and told agrees with a course that was picked.
func minds(t *testing.T, count int) []trueMind {
	t.Helper()
	random := rand.New(rand.NewPCG(3, 7))
	var l []trueMind
	for range count {
		g := aGame(random, 5, 2000)
		var picks []int
		for _, n := range choices(g) {
			picks = append(picks, random.IntN(n))
		}
		m := trueMind{api.Mind{Game: g}, must[[]int](t)(game.Play(g, picks))}
		for range random.IntN(1 + random.IntN(api.MaxNoses+1)) {
			m.Noses = append(m.Noses, aNose(random, len(g.Woods)))
		}
		m.smell(random)
		for range random.IntN(3) {
			if f, is := m.fact(random); is {
				m.Facts = append(m.Facts, f)
			}
		}
		l = append(l, m)
	}
	return l
}

// smell lets the noses smell some of the censers.
func (m *trueMind) smell(random *rand.Rand) {
	for number, n := range m.Noses {
		for censer, wood := range m.truth {
			if random.IntN(3) == 0 {
				m.Smells = append(m.Smells, api.Smell{Nose: number, Censer: censer, Wood: sniffed(random, n, wood)})
			}
		}
	}
	random.Shuffle(len(m.Smells), func(i, j int) { m.Smells[i], m.Smells[j] = m.Smells[j], m.Smells[i] })
	m.Smells = m.Smells[:min(len(m.Smells), api.MaxSmells)]
}

// fact returns some fact that is so of the truth, if it finds one.
func (m *trueMind) fact(random *rand.Rand) (api.Fact, bool) {
	a, b, wood := random.IntN(len(m.truth)), random.IntN(len(m.truth)), random.IntN(len(m.Game.Woods))
	f := [...]api.Fact{is(a, wood), not(a, wood), not(a, wood), alike(a, b), other(a, b)}[random.IntN(5)]
	if (f.Kind == api.FactSame || f.Kind == api.FactOther) && a == b {
		return api.Fact{}, false
	}
	return f, isSo(f, m.truth)
}
