package game_test

import (
	"math/rand/v2"
	"slices"
	"testing"

	"aloeswood/api"
	"aloeswood/chart"
	"aloeswood/game"
)

// key returns a list as a key of a map.
func key(list []int) string {
	k := []byte{byte(len(list))}
	for _, n := range list {
		k = append(k, byte(n))
	}
	return string(k)
}

// small are the games for which all is looked at.
func small() []api.Game {
	return append(games(200, 400), example(), mixed(), crossed(), with(1, place(0)), with(6, place(5), place(0)))
}

// P2.6

func TestWhateverIsPickedIsACourse(t *testing.T) {
	for _, g := range small() {
		courses, _ := listedOf(t, g)
		each(g.Deals, lots{}, nil, nil, func(picks, course []int) {
			played, e := game.Play(g, picks)
			if e != api.OK || !slices.Equal(played, course) {
				t.Fatal(g, picks, course, played, e)
			}
			if _, found := slices.BinarySearchFunc(courses, played, slices.Compare[[]int]); !found {
				t.Fatal(g, played)
			}
			if ways, _ := counted(t, g, played); ways <= 0 {
				t.Fatal(g, played, ways)
			}
		})
	}
}

// P2.7

func TestAllListsOfPicksAreCounted(t *testing.T) {
	for _, g := range small() {
		lists, tally := 0, map[string]int{}
		each(g.Deals, lots{}, nil, nil, func(_, course []int) {
			lists++
			tally[key(course)]++
		})
		courses, ways := listedOf(t, g)
		if len(courses) != len(tally) || sum(ways) != lists || !slices.IsSortedFunc(courses, slices.Compare[[]int]) {
			t.Fatal(g, courses, ways, lists, tally)
		}
		for i, course := range courses {
			n, all := counted(t, g, course)
			if n != tally[key(course)] || n != ways[i] || all != lists {
				t.Fatal(g, course, n, all, ways[i])
			}
		}
	}
}

// every returns all lists of so many numbers from 0 on, below a bound.
func every(length, below int) [][]int {
	l := [][]int{nil}
	for range length {
		var longer [][]int
		for _, list := range l {
			for n := range below {
				longer = append(longer, append(slices.Clone(list), n))
			}
		}
		l = longer
	}
	return l
}

func TestAllOtherCoursesHaveNoWays(t *testing.T) {
	for _, g := range small() {
		courses, ways := listedOf(t, g)
		length := len(courses[0])
		if length > 4 {
			continue
		}
		found := 0
		for _, course := range every(length, len(g.Woods)) {
			if n, _ := counted(t, g, course); n > 0 {
				if !slices.Equal(courses[found], course) || ways[found] != n {
					t.Fatal(g, course, n)
				}
				found++
			}
		}
		if found != len(courses) {
			t.Fatal(g, found, len(courses))
		}
	}
}

// Games in which too much may be drawn to look at all of it have as many ways as they have together.
func TestManyWaysAreCounted(t *testing.T) {
	for _, g := range append(games(100, 1<<30), brim()) {
		courses, ways, e := game.Courses(g)
		if e == api.ErrFull {
			continue
		}
		listed(t, courses, ways, e)
		if n, all := counted(t, g, courses[len(courses)/2]); sum(ways) != all || ways[len(courses)/2] != n {
			t.Fatal(g, sum(ways), all, n)
		}
	}
}

// P2.8

// passed returns the first censer and the one behind the last of each deal by which packets are passed.
func passed(g api.Game) [][2]int {
	var l [][2]int
	censers := 0
	for _, d := range g.Deals {
		switch d.Kind {
		case api.DealPass:
			l = append(l, [2]int{censers, censers + d.Count})
			censers += d.Count
		case api.DealPlace:
			censers++
		}
	}
	return l
}

func TestCensersOfOneDealChangePlaces(t *testing.T) {
	exchanged := 0
	for _, g := range append(games(200, 5000), example(), mixed()) {
		courses, ways := listedOf(t, g)
		for _, deal := range passed(g) {
			for first := deal[0]; first < deal[1]; first++ {
				for second := first + 1; second < deal[1]; second++ {
					for i, course := range courses {
						other := slices.Clone(course)
						other[first], other[second] = other[second], other[first]
						if n, _ := counted(t, g, other); n != ways[i] {
							t.Fatal(g, course, ways[i], other, n)
						}
						exchanged++
					}
				}
			}
		}
	}
	if exchanged < 1000 {
		t.Error(exchanged)
	}
}

// P2.9

// alike fails the test unless two games have the same courses, in the same ways.
func alike(t *testing.T, g, h api.Game) {
	t.Helper()
	courses, ways := listedOf(t, g)
	others, waysToo := listedOf(t, h)
	if !same(courses, others) || !slices.Equal(ways, waysToo) {
		t.Fatal(g, h, courses, ways, others, waysToo)
	}
	for _, a := range asks(g) {
		answers, ways := answersOf(t, g, a)
		others, waysToo := answersOf(t, h, a)
		if !same(answers, others) || !slices.Equal(ways, waysToo) {
			t.Fatal(g, h, a, answers, ways, others, waysToo)
		}
	}
}

func TestPacketsArePouredAsIfMixed(t *testing.T) {
	for _, g := range games(200, 2000) {
		h := api.Game{Woods: g.Woods}
		for _, d := range g.Deals {
			h.Deals = append(h.Deals, d)
			if d.Kind == api.DealMix {
				h.Deals[len(h.Deals)-1].Bag = 3
				h.Deals = append(h.Deals, pour(3, d.Bag))
			}
		}
		alike(t, g, h)
	}
}

// P2.10

func TestPacketsAreSetAsideBeforeOrAfter(t *testing.T) {
	exchanged := 0
	for _, g := range games(300, 500) {
		for i, d := range g.Deals {
			for count := 1; count <= 2 && d.Kind == api.DealPass; count++ {
				before, after := g, g
				before.Deals = slices.Insert(slices.Clone(g.Deals), i, aside(d.Bag, count))
				after.Deals = slices.Insert(slices.Clone(g.Deals), i+1, aside(d.Bag, count))
				if game.Check(before) != game.Check(after) {
					t.Fatal(before, after)
				}
				if game.Check(before) == api.OK {
					alike(t, before, after)
					exchanged++
				}
			}
		}
	}
	if exchanged < 100 {
		t.Error(exchanged)
	}
}

// P2.11

// isBefore tells whether a list comes before another one: a shorter one does, and of two as long the one that is less at the first place at which they differ.
func isBefore(a, b []int) bool {
	for i := 0; len(a) == len(b) && i < len(a); i++ {
		if a[i] != b[i] {
			return a[i] < b[i]
		}
	}
	return len(a) < len(b)
}

func TestAnswersHaveTheWaysOfTheirCourses(t *testing.T) {
	for _, g := range small() {
		courses, each := listedOf(t, g)
		for _, a := range asks(g) {
			tally := map[string]int{}
			for i, course := range courses {
				tally[key(must[[]int](t)(game.Due(g, a, course)))] += each[i]
			}
			answers, ways := answersOf(t, g, a)
			if len(answers) != len(tally) || sum(ways) != sum(each) {
				t.Fatal(g, a, answers, ways, tally)
			}
			for i, answer := range answers {
				if tally[key(answer)] != ways[i] || i > 0 && !isBefore(answers[i-1], answer) {
					t.Fatal(g, a, answers, ways, tally)
				}
			}
		}
	}
}

func TestNamesTellAll(t *testing.T) {
	for _, g := range small() {
		length := len(must[[]int](t)(firstCourse(g)))
		if length > 3 {
			continue
		}
		named := map[string][]int{}
		for _, course := range every(length, len(g.Woods)) {
			name := key(must[[]int](t)(game.Due(g, api.Ask{Kind: api.AskName}, course)))
			if other, known := named[name]; known {
				t.Fatal(g, course, other)
			}
			named[name] = course
		}
		answers, ways := answersOf(t, g, api.Ask{Kind: api.AskName})
		if courses, each := listedOf(t, g); !same(answers, courses) || !slices.Equal(ways, each) {
			t.Fatal(g, answers, ways)
		}
	}
}

// firstCourse returns the course of a game in which each pick is 0.
func firstCourse(g api.Game) ([]int, api.Errno) {
	draws := 0
	for _, d := range g.Deals {
		if d.Kind == api.DealAside || d.Kind == api.DealPass {
			draws += d.Count
		}
	}
	return game.Play(g, make([]int, draws))
}

// The due answers, by what they mean.
func TestDueAnswersAreTrue(t *testing.T) {
	for _, g := range small() {
		courses, _ := listedOf(t, g)
		for _, course := range courses {
			due := func(a api.Ask) []int { return must[[]int](t)(game.Due(g, a, course)) }
			if p := due(api.Ask{Kind: api.AskSame}); !slices.Equal(p, must[[]int](t)(chart.Of(course))) {
				t.Fatal(g, course, p)
			}
			firsts, counts, news := due(api.Ask{Kind: api.AskFirst}), due(api.Ask{Kind: api.AskCount}), due(api.Ask{Kind: api.AskNew})
			var unknown, comers []int
			for censer, wood := range course {
				if !slices.Contains(g.Deals, trial(wood)) {
					unknown = append(unknown, censer)
				}
				if slices.Index(course, wood) == censer {
					comers = append(comers, wood)
				}
			}
			for wood := range g.Woods {
				which := due(api.Ask{Kind: api.AskWhich, Wood: wood})
				if len(which) != counts[wood] || slices.ContainsFunc(which, func(censer int) bool { return course[censer] != wood }) || !slices.IsSorted(which) {
					t.Fatal(g, course, wood, which, counts)
				}
			}
			if len(counts) != len(g.Woods) || sum(counts) != len(course) || !slices.Equal(news, unknown) || !slices.Equal(firsts, comers) {
				t.Fatal(g, course, counts, news, firsts)
			}
		}
	}
}

// P2.12

// renumbered returns a list of woods with other numbers.
func renumbered(woods, numbers []int) []int {
	var l []int
	for _, wood := range woods {
		l = append(l, numbers[wood])
	}
	return l
}

func TestWoodsGetOtherNumbers(t *testing.T) {
	random := rand.New(rand.NewPCG(3, 5))
	for _, g := range small() {
		numbers := random.Perm(len(g.Woods))
		h := api.Game{Woods: make([]api.Wood, len(g.Woods)), Deals: slices.Clone(g.Deals)}
		for wood, number := range numbers {
			h.Woods[number] = g.Woods[wood]
		}
		for i, d := range g.Deals {
			if d.Kind == api.DealTrial || d.Kind == api.DealMix || d.Kind == api.DealPlace {
				h.Deals[i].Wood = numbers[d.Wood]
			}
		}
		courses, ways := listedOf(t, g)
		others, _ := listedOf(t, h)
		if len(courses) != len(others) {
			t.Fatal(g, h, len(courses), len(others))
		}
		for i, course := range courses {
			other := renumbered(course, numbers)
			if n, _ := counted(t, h, other); n != ways[i] {
				t.Fatal(g, h, course, other, ways[i], n)
			}
			for _, kind := range []int{api.AskSame, api.AskNew} {
				if !slices.Equal(must[[]int](t)(game.Due(g, api.Ask{Kind: kind}, course)), must[[]int](t)(game.Due(h, api.Ask{Kind: kind}, other))) {
					t.Fatal(g, h, course, other, kind)
				}
			}
		}
		partitions, each := answersOf(t, g, api.Ask{Kind: api.AskSame})
		if l, n := answersOf(t, h, api.Ask{Kind: api.AskSame}); !same(l, partitions) || !slices.Equal(n, each) {
			t.Fatal(g, h, partitions, each, l, n)
		}
	}
}

// P2.13

func TestProgramsAreReadAsTheyWereWritten(t *testing.T) {
	for _, g := range append(games(300, 1000), example(), mixed(), brim()) {
		text := must[string](t)(game.Write(g))
		h, row, e := game.Read(text)
		if !slices.Equal(g.Woods, h.Woods) || !slices.Equal(g.Deals, h.Deals) || row != 0 || e != api.OK {
			t.Fatal(g, text, h, row, e)
		}
	}
}

func TestProgramsAreWrittenAsTheyWereRead(t *testing.T) {
	read := 0
	for _, g := range append(games(30, 100), example(), mixed()) {
		text := must[string](t)(game.Write(g))
		for i := range text {
			for _, sign := range []string{"", " ", "\n", "0", "1", "9", "-", "a", "w", "\r", "\x00"} {
				other := text[:i] + sign + text[i+1:]
				h, row, e := game.Read(other)
				if e != api.OK {
					if h.Woods != nil || h.Deals != nil || row > 0 && e != api.ErrForm {
						t.Fatalf("%q: %v %d %v", other, h, row, e)
					}
					continue
				}
				if again := must[string](t)(game.Write(h)); again != other || row != 0 {
					t.Fatalf("%q, written as %q", other, again)
				}
				read++
			}
		}
	}
	if read < 1000 {
		t.Error(read)
	}
}
