package know_test

import (
	"math/rand/v2"
	"slices"
	"testing"

	"aloeswood/api"
	"aloeswood/chart"
	"aloeswood/game"
	"aloeswood/know"
)

// isLeft tells whether a course is one of those that are left.
func isLeft(l [][]int, course []int) bool {
	return slices.ContainsFunc(l, func(other []int) bool { return slices.Equal(course, other) })
}

// eachVerdict says all verdicts about a mind: of Sure, and of Pairs, each with what it is about.
func eachVerdict(t *testing.T, m api.Mind, said func(verdict int, is func(course []int) bool)) {
	t.Helper()
	for censer, row := range must[[][]int](t)(know.Sure(m)) {
		for wood, verdict := range row {
			said(verdict, func(course []int) bool { return course[censer] == wood })
		}
	}
	for censer, row := range must[[][]int](t)(know.Pairs(m)) {
		for other, verdict := range row {
			said(verdict, func(course []int) bool { return course[censer] == course[other] })
		}
	}
}

// P4.8

func TestTheTruthIsLeft(t *testing.T) {
	for _, m := range minds(t, 600) {
		if l, _ := leftOf(t, m.Mind); !isLeft(l, m.truth) {
			t.Fatal(m, l)
		}
		eachVerdict(t, m.Mind, func(verdict int, is func(course []int) bool) {
			if verdict == api.Sure && !is(m.truth) || verdict == api.Never && is(m.truth) {
				t.Fatal(m, verdict)
			}
		})
	}
}

// P4.9

func TestEachCourseLeftCouldBeTrue(t *testing.T) {
	for _, m := range minds(t, 600) {
		l, _ := leftOf(t, m.Mind)
		for _, course := range l {
			ways, _, e := game.Ways(m.Game, course)
			if ways == 0 || e != api.OK || cases(m.Mind, course) == 0 {
				t.Fatal(m, course, ways, e)
			}
		}
		eachVerdict(t, m.Mind, func(verdict int, is func(course []int) bool) {
			yes := slices.ContainsFunc(l, is)
			no := slices.ContainsFunc(l, func(course []int) bool { return !is(course) })
			if verdict != api.Sure && verdict != api.Never && verdict != api.Open || verdict == api.Open && !(yes && no) {
				t.Fatal(m, verdict, l)
			}
		})
	}
}

// P4.10

// kept fails the test unless less is left of the second mind than of the first one, or as much, and verdicts of the first one stay.
func kept(t *testing.T, first, second api.Mind) {
	t.Helper()
	before, _ := leftOf(t, first)
	after, _ := leftOf(t, second)
	for _, course := range after {
		if !isLeft(before, course) {
			t.Fatal(first, second, course)
		}
	}
	var verdicts []int
	eachVerdict(t, second, func(verdict int, _ func(course []int) bool) { verdicts = append(verdicts, verdict) })
	eachVerdict(t, first, func(verdict int, _ func(course []int) bool) {
		if verdict != api.Open && verdict != verdicts[0] {
			t.Fatal(first, second, verdict, verdicts[0])
		}
		verdicts = verdicts[1:]
	})
}

func TestNoCourseComesBack(t *testing.T) {
	random := rand.New(rand.NewPCG(23, 29))
	longer := 0
	for _, m := range minds(t, 400) {
		for i := range m.Smells {
			less := copied(m.Mind)
			less.Smells = slices.Delete(less.Smells, i, i+1)
			kept(t, less, m.Mind)
		}
		for i := range m.Facts {
			less := copied(m.Mind)
			less.Facts = slices.Delete(less.Facts, i, i+1)
			kept(t, less, m.Mind)
		}
		if f, is := m.fact(random); is {
			kept(t, m.Mind, told(m.Mind, f))
			longer++
		}
	}
	if longer < 100 {
		t.Error(longer)
	}
}

func TestAfterFewerCensersMoreIsLeft(t *testing.T) {
	for _, m := range minds(t, 300) {
		for after := range m.truth {
			kept(t, must[api.Mind](t)(know.Cut(m.Mind, after)), must[api.Mind](t)(know.Cut(m.Mind, after+1)))
		}
		if all := must[api.Mind](t)(know.Cut(m.Mind, len(m.truth))); !equal(all, m.Mind) {
			t.Fatal(m, all)
		}
	}
}

// P4.11

func TestSmellsAndFactsInAnyOrder(t *testing.T) {
	random := rand.New(rand.NewPCG(31, 37))
	for _, m := range minds(t, 300) {
		x := copied(m.Mind)
		random.Shuffle(len(x.Smells), func(i, j int) { x.Smells[i], x.Smells[j] = x.Smells[j], x.Smells[i] })
		random.Shuffle(len(x.Facts), func(i, j int) { x.Facts[i], x.Facts[j] = x.Facts[j], x.Facts[i] })
		l, weights := leftOf(t, m.Mind)
		if other, each := leftOf(t, x); !same(l, other) || !slices.Equal(weights, each) {
			t.Fatal(m, x, l, other, weights, each)
		}
		for _, a := range asks(m.Game) {
			answer, sum, of := bestOf(t, m.Mind, a, api.PointEach)
			if other, s, o := bestOf(t, x, a, api.PointEach); !slices.Equal(answer, other) || s != sum || o != of {
				t.Fatal(m, x, a, answer, sum, of, other, s, o)
			}
		}
	}
}

func TestANoseThatTellsNothing(t *testing.T) {
	random := rand.New(rand.NewPCG(41, 43))
	done := 0
	for _, m := range minds(t, 400) {
		if len(m.Noses) == api.MaxNoses || len(m.Smells) == api.MaxSmells {
			continue
		}
		row := make([]int, len(m.Game.Woods))
		for range 10 {
			row[random.IntN(len(row))]++
		}
		l, weights := leftOf(t, m.Mind)
		for wood, cases := range row {
			x := copied(m.Mind)
			x.Noses = append(x.Noses, dull(row...))
			x.Smells = append(x.Smells, api.Smell{Nose: len(m.Noses), Censer: random.IntN(len(m.truth)), Wood: wood})
			if cases == 0 {
				if e := know.Check(x); e != api.ErrClash {
					t.Fatal(x, e)
				}
				continue
			}
			other, each := leftOf(t, x)
			for i := range each {
				if each[i]%cases != 0 {
					t.Fatal(x, each, cases)
				}
				each[i] /= cases
			}
			if !same(l, other) || !slices.Equal(weights, each) {
				t.Fatal(m, x, l, other, weights, each)
			}
			done++
		}
	}
	if done < 500 {
		t.Error(done)
	}
}

// P4.12

func TestNoAnswerIsWorthMore(t *testing.T) {
	for _, m := range minds(t, 200) {
		l, weights := leftOf(t, m.Mind)
		for _, a := range asks(m.Game) {
			for _, rule := range rules() {
				_, sum, _ := bestOf(t, m.Mind, a, rule)
				for _, answer := range answersOf(t, m.Game, a) {
					s := 0
					for i, course := range l {
						s += weights[i] * must[int](t)(know.Points(m.Game, a, rule, answer, course))
					}
					if s > sum {
						t.Fatal(m, a, rule, answer, s, sum)
					}
				}
			}
		}
	}
}

func TestADecidedAnswerIsTheBestOne(t *testing.T) {
	decided := 0
	for _, m := range minds(t, 400) {
		for _, a := range asks(m.Game) {
			answer, is, e := know.Decided(m.Mind, a)
			if e != api.OK {
				t.Fatal(m, a, e)
			}
			best, sum, of := bestOf(t, m.Mind, a, api.PointWhole)
			if is && !slices.Equal(answer, best) || is != (sum == of) || sum > of {
				t.Fatal(m, a, answer, best, sum, of)
			}
			if is {
				decided++
			}
		}
	}
	if decided < 500 {
		t.Error(decided)
	}
}

// P4.13

func TestSkillsInOrder(t *testing.T) {
	for _, c := range noses(t, 120, 256) {
		woods, censers := len(c.Woods), censersOf(t, c.Game)
		blank := make([]int, woods)
		blank[0], blank[woods-1] = 4, 6
		for _, a := range asks(c.Game) {
			for _, rule := range rules() {
				most, of := skillOf(t, c.Game, sharp(woods), a, rule)
				some, ofSome := skillOf(t, c.Game, c.Nose, a, rule)
				least, ofLeast := skillOf(t, c.Game, dull(blank...), a, rule)
				_, best, ways := bestOf(t, api.Mind{Game: c.Game}, a, rule)
				times := power(10, censers)
				if of != ways*times || ofSome != of || ofLeast != of {
					t.Fatal(c, a, rule, of, ofSome, ofLeast, ways)
				}
				if most < some || some < least || least != best*times || rule == api.PointWhole && most != of {
					t.Fatal(c, a, rule, most, some, least, best, of)
				}
			}
		}
	}
}

// P4.14

func TestPairsThatAreSureAreAPartition(t *testing.T) {
	partitions, several := 0, 0
	for _, m := range minds(t, 800) {
		pairs := must[[][]int](t)(know.Pairs(m.Mind))
		answer, is, e := know.Decided(m.Mind, api.Ask{Kind: api.AskSame})
		open := slices.ContainsFunc(pairs, func(row []int) bool { return slices.Contains(row, api.Open) })
		if e != api.OK || is == open {
			t.Fatal(m, pairs, answer, is, e)
		}
		if open {
			continue
		}
		var labels []int
		for _, row := range pairs {
			labels = append(labels, slices.Index(row, api.Sure))
		}
		p := must[[]int](t)(chart.Of(labels))
		for i, row := range pairs {
			for j, verdict := range row {
				if (p[i] == p[j]) != (verdict == api.Sure) {
					t.Fatal(m, pairs)
				}
			}
		}
		if !slices.Equal(p, answer) {
			t.Fatal(m, pairs, p, answer)
		}
		partitions++
		if l, _ := leftOf(t, m.Mind); len(l) > 1 {
			several++
		}
	}
	if partitions < 100 || several < 20 {
		t.Error(partitions, several)
	}
}

// T3

// A guest whose nose never errs knows what it smelled, and of the other censers just what the courses of the game leave open.
func TestNoMoreIsKnownThanTheCensersTold(t *testing.T) {
	random := rand.New(rand.NewPCG(47, 53))
	for range 200 {
		g := aGame(random, 5, 2000)
		courses, ways, e := game.Courses(g)
		if e != api.OK {
			t.Fatal(e, g)
		}
		truth := courses[random.IntN(len(courses))]
		for set := range 1 << len(truth) {
			m := api.Mind{Game: g, Noses: []api.Nose{sharp(len(g.Woods))}}
			for censer, wood := range truth {
				if set>>censer&1 == 1 {
					m.Smells = append(m.Smells, api.Smell{Censer: censer, Wood: wood})
				}
			}
			var want [][]int
			var weights []int
			for i, course := range courses {
				if !slices.ContainsFunc(m.Smells, func(s api.Smell) bool { return course[s.Censer] != s.Wood }) {
					want, weights = append(want, course), append(weights, ways[i]*power(10, len(m.Smells)))
				}
			}
			if l, each := leftOf(t, m); !same(l, want) || !slices.Equal(each, weights) {
				t.Fatal(m, l, each, want, weights)
			}
			isKnown(t, m, truth, want)
		}
	}
}

// isKnown fails the test unless of each censer that was smelled its wood is sure, and of each other one just those woods are never it that no course has.
func isKnown(t *testing.T, m api.Mind, truth []int, courses [][]int) {
	t.Helper()
	for censer, row := range must[[][]int](t)(know.Sure(m)) {
		smelled := slices.ContainsFunc(m.Smells, func(s api.Smell) bool { return s.Censer == censer })
		for wood, verdict := range row {
			n := 0
			for _, course := range courses {
				if course[censer] == wood {
					n++
				}
			}
			switch {
			case smelled && (verdict == api.Sure) != (wood == truth[censer]), smelled && verdict == api.Open:
				t.Fatal(m, censer, wood, verdict)
			case (verdict == api.Sure) != (n == len(courses)), (verdict == api.Never) != (n == 0):
				t.Fatal(m, censer, wood, verdict, n)
			}
		}
	}
}
