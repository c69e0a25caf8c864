package score_test

import (
	"math/rand/v2"
	"slices"
	"testing"

	"aloeswood/api"
	"aloeswood/chart"
	"aloeswood/game"
	"aloeswood/score"
)

// P3.5

// interrupted does the deeds of a play one by one; between them the table is saved and loaded, or paused and resumed.
func (p play) interrupted(t *testing.T, random *rand.Rand) (api.Table, []api.Errno) {
	t.Helper()
	table := p.t
	var returned []api.Errno
	for _, d := range p.deeds {
		if random.IntN(2) == 0 {
			table = reloaded(t, table)
		}
		if random.IntN(2) == 0 && table.State == api.TableOpen {
			table = must[api.Table](t)(score.Do(table, pause()))
			table = reloaded(t, table)
			table = must[api.Table](t)(score.Do(table, resume()))
		}
		next, e := score.Do(table, d)
		returned = append(returned, e)
		if e == api.OK {
			table = next
		}
	}
	return reloaded(t, table), returned
}

func TestInterruptionsChangeNothing(t *testing.T) {
	random := rand.New(rand.NewPCG(19, 23))
	open := 0
	for _, p := range plays(300) {
		after, returned := p.run(t)
		again, refused := p.interrupted(t, random)
		if !same(after, again) || !slices.Equal(returned, refused) {
			t.Fatal(p, after, again)
		}
		truth := aTruth(t, random, p.t.Packets)
		scores, places, e := score.Result(example(), truth, after)
		x, y, f := score.Result(example(), truth, again)
		if e != f || !slices.Equal(scores, x) || !slices.Equal(places, y) {
			t.Fatal(p, e, f)
		}
		if e == api.OK {
			open++
		}
	}
	if open < 200 {
		t.Error(open)
	}
}

// P3.6

func TestDeedsWithErrorsCanBeLeftOut(t *testing.T) {
	refused := 0
	for _, p := range plays(300) {
		after, returned := p.run(t)
		left := play{t: p.t}
		for i, d := range p.deeds {
			if returned[i] == api.OK {
				left.deeds = append(left.deeds, d)
			}
		}
		refused += len(p.deeds) - len(left.deeds)
		again, none := left.run(t)
		if !same(after, again) || slices.ContainsFunc(none, func(e api.Errno) bool { return e != api.OK }) {
			t.Fatal(p, after, again, none)
		}
	}
	if refused == 0 {
		t.Error("nothing was refused")
	}
}

func TestValidTablesStayValid(t *testing.T) {
	for _, p := range plays(300) {
		for i := range p.deeds {
			after, _ := play{p.t, p.deeds[:i+1]}.run(t)
			if e := score.CheckTable(after); e != api.OK {
				t.Fatal(p, i, after, e)
			}
		}
	}
}

// P3.7

func TestWritingInAnotherOrder(t *testing.T) {
	random := rand.New(rand.NewPCG(29, 31))
	for range 300 {
		packets, guests := 1+random.IntN(4), 1+random.IntN(4)
		table := fresh(packets, guests)
		table.Passed = 1 + random.IntN(packets)
		var deeds []api.Deed
		for range 30 {
			// Some of them are for no guest or packet, or too early, or for no number.
			deeds = append(deeds, write(random.IntN(guests+1), random.IntN(packets+1), random.IntN(12)-2))
		}
		after, returned := play{table, deeds}.run(t)
		type place struct{ guest, packet int }
		last := map[place]api.Deed{}
		var order []place
		for i, d := range deeds {
			if returned[i] == api.OK {
				p := place{d.Guest, d.Packet}
				last[p] = d
				order = append(order, p)
			}
		}
		// Of several deeds for one guest and packet the order is kept; all others are mixed.
		mixed := slices.Clone(deeds)
		for range 200 {
			i := 1 + random.IntN(len(mixed)-1)
			if mixed[i-1].Guest != mixed[i].Guest || mixed[i-1].Packet != mixed[i].Packet {
				mixed[i-1], mixed[i] = mixed[i], mixed[i-1]
			}
		}
		var lasts []api.Deed
		random.Shuffle(len(order), func(i, j int) { order[i], order[j] = order[j], order[i] })
		for _, p := range order {
			lasts = append(lasts, last[p])
		}
		x, _ := play{table, mixed}.run(t)
		y, none := play{table, lasts}.run(t)
		if !same(after, x) || !same(after, y) || slices.ContainsFunc(none, func(e api.Errno) bool { return e != api.OK }) {
			t.Fatal(table, deeds, mixed, lasts)
		}
	}
}

// P3.8

// renamed returns an answer with other numbers, equal where they were equal.
func renamed(random *rand.Rand, answer []int) []int {
	names := random.Perm(api.MaxPackets)
	l := slices.Clone(answer)
	for i, number := range answer {
		if number != -1 {
			l[i] = names[number]
		}
	}
	return l
}

func TestOtherNumbersChangeNothing(t *testing.T) {
	random := rand.New(rand.NewPCG(37, 41))
	for _, c := range trials(t) {
		x := must[api.Score](t)(score.Mark(example(), c.truth, c.answer))
		other := renamed(random, c.answer)
		if y := must[api.Score](t)(score.Mark(example(), c.truth, other)); x != y {
			t.Fatal(c, other, x, y)
		}
	}
}

// P3.9

func TestTheTruthIsTheBestAnswer(t *testing.T) {
	for _, c := range trials(t) {
		n := len(c.truth)
		best := must[api.Score](t)(score.Mark(example(), c.truth, c.truth))
		if best.Whole != 1 || best.Honour != 3 || best.Wrong != 0 || best.Packets != n || best.Start != n || best.Pairs != n*(n-1)/2 {
			t.Fatal(c.truth, best)
		}
		x := must[api.Score](t)(score.Mark(example(), c.truth, c.answer))
		if x.Packets > best.Packets || x.Pairs > best.Pairs || x.New > best.New || x.Start > best.Start || x.Honour > best.Honour {
			t.Fatal(c, x, best)
		}
		isTruth := !slices.Contains(c.answer, -1) && slices.Equal(must[[]int](t)(chart.Of(c.answer)), c.truth)
		if isTruth != (x.Whole == 1) || isTruth != (x.Honour == 3) {
			t.Fatal(c, x)
		}
	}
}

// P3.10

func TestSumsOfScores(t *testing.T) {
	for _, c := range trials(t) {
		x := must[api.Score](t)(score.Mark(example(), c.truth, c.answer))
		written := 0
		for _, number := range c.answer {
			if number != -1 {
				written++
			}
		}
		if x.Packets+x.Wrong != written || (x.Whole == 1) != (x.Packets == len(c.truth)) || x.Start > x.Packets || x.Whole < 0 || x.Whole > 1 {
			t.Fatal(c, x)
		}
	}
}

// P3.11

// amount says how much of a key a score has.
func amount(x api.Score, key int) int {
	return [...]int{api.KeyPoints: x.Points, api.KeyPackets: x.Packets, api.KeyPairs: x.Pairs, api.KeyHonour: x.Honour, api.KeyStart: x.Start}[key]
}

// checkPlaces fails the test unless places are as they have to be.
func checkPlaces(t *testing.T, keys []int, scores []api.Score, places []int) {
	t.Helper()
	seated := slices.Contains(keys, api.KeySeat)
	for i, place := range places {
		lesser := 0
		for j, other := range places {
			if other < place {
				lesser++
			}
			if i == j || other != place {
				continue
			}
			if seated {
				t.Fatal("one place", keys, places)
			}
			for _, key := range keys {
				if amount(scores[i], key) != amount(scores[j], key) {
					t.Fatal("unlike", keys, scores, places)
				}
			}
		}
		if place != 1+lesser {
			t.Fatal(keys, places)
		}
	}
	if !slices.Contains(places, 1) {
		t.Fatal(keys, places)
	}
}

// checkFirst fails the test unless a lesser place has more of the first key by which two guests differ.
func checkFirst(t *testing.T, keys []int, scores []api.Score, places []int) {
	t.Helper()
	for i, place := range places {
		for j, other := range places {
			for _, key := range keys {
				if key == api.KeySeat {
					if i < j && place >= other {
						t.Fatal("seats", keys, scores, places)
					}
					break
				}
				mine, theirs := amount(scores[i], key), amount(scores[j], key)
				if mine > theirs && place >= other {
					t.Fatal(keys, scores, places)
				}
				if mine != theirs {
					break
				}
			}
		}
	}
}

func TestPlacesOfManyGuests(t *testing.T) {
	random := rand.New(rand.NewPCG(43, 47))
	for range 2000 {
		n, guests := 1+random.IntN(6), 1+random.IntN(api.MaxGuests)
		truth := aTruth(t, random, n)
		var answers [][]int
		for range guests {
			answers = append(answers, anAnswer(random, n))
		}
		s := api.Scoring{Packet: random.IntN(4), Pair: random.IntN(4), Whole: random.IntN(9), New: random.IntN(9), Loss: random.IntN(9)}
		for _, key := range random.Perm(api.MaxKeys)[:random.IntN(api.MaxKeys+1)] {
			s.Keys = append(s.Keys, key+1)
		}
		scores, places := ranked(t, s, truth, answers)
		checkPlaces(t, s.Keys, scores, places)
		checkFirst(t, s.Keys, scores, places)
		if slices.Contains(s.Keys, api.KeySeat) {
			continue
		}
		seats := random.Perm(guests)
		var moved [][]int
		for _, guest := range seats {
			moved = append(moved, answers[guest])
		}
		_, again := ranked(t, s, truth, moved)
		for seat, guest := range seats {
			if again[seat] != places[guest] {
				t.Fatal(s, truth, answers, seats, places, again)
			}
		}
	}
}

// P3.12

func TestTablesAreLoadedFromWhatIsSaved(t *testing.T) {
	tables := rightTables()
	for _, p := range plays(200) {
		after, _ := p.run(t)
		tables = append(tables, p.t, after)
	}
	for _, table := range tables {
		if back := reloaded(t, table); !same(back, table) {
			t.Fatal(table, back)
		}
	}
}

func TestWhatIsLoadedIsSavedAsItWas(t *testing.T) {
	taken := map[string]bool{}
	for _, table := range rightTables()[:9] {
		for _, edited := range edits(must[string](t)(score.Save(table))) {
			back, _, e := score.Load(edited)
			if e != api.OK {
				continue
			}
			taken[edited] = true
			if text := must[string](t)(score.Save(back)); text != edited {
				t.Fatalf("%q %q", edited, text)
			}
		}
	}
	if len(taken) < 50 {
		t.Error(len(taken))
	}
}

// T2

// games are games with some courses each.
func games() []api.Game {
	woods := []api.Wood{{Name: "a"}, {Name: "b"}, {Name: "c"}, {Name: "d"}}
	mix := func(bag, wood, count int) api.Deal {
		return api.Deal{Kind: api.DealMix, Bag: bag, Wood: wood, Count: count}
	}
	pass := func(bag, count int) api.Deal { return api.Deal{Kind: api.DealPass, Bag: bag, Count: count} }
	return []api.Game{
		{Woods: woods, Deals: []api.Deal{mix(0, 0, 2), mix(0, 1, 1), mix(0, 2, 1), pass(0, 3)}},
		{Woods: woods, Deals: []api.Deal{mix(0, 0, 3), mix(0, 1, 3), mix(0, 2, 3), mix(0, 3, 1), pass(0, 5)}},
		{Woods: woods, Deals: []api.Deal{mix(0, 0, 1), mix(0, 1, 2), mix(1, 2, 2), mix(1, 3, 1), pass(0, 1), pass(1, 2), {Kind: api.DealPour, Bag: 0, Other: 1}, pass(1, 2), {Kind: api.DealPlace, Wood: 3}}},
	}
}

func TestTheDueAnswerOfACourseIsAllRight(t *testing.T) {
	random := rand.New(rand.NewPCG(53, 59))
	for _, g := range games() {
		courses, _, e := game.Courses(g)
		if e != api.OK || len(courses) == 0 {
			t.Fatal(e, g)
		}
		for _, course := range courses {
			n := len(course)
			truth := must[[]int](t)(chart.Of(course))
			due := must[[]int](t)(game.Due(g, api.Ask{Kind: api.AskSame}, course))
			for _, answer := range [][]int{due, course, renamed(random, due)} {
				x := must[api.Score](t)(score.Mark(example(), truth, answer))
				if x.Whole != 1 || x.Packets != n || x.Wrong != 0 || x.Pairs != n*(n-1)/2 || x.Start != n || x.Honour != 3 {
					t.Fatal(course, answer, x)
				}
			}
		}
	}
}

func TestTheHonourFallsWithThePacketsThatAreMoved(t *testing.T) {
	for n := 1; n <= 6; n++ {
		for _, truth := range truths(t, n) {
			for _, answer := range truths(t, n) {
				x := must[api.Score](t)(score.Mark(example(), truth, answer))
				if moves := must[int](t)(chart.Moves(answer, truth)); x.Honour != max(0, 3-moves) {
					t.Fatal(truth, answer, moves, x)
				}
			}
		}
	}
}
