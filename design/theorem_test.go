package design_test

import (
	"math/rand/v2"
	"slices"
	"testing"

	"aloeswood/api"
	"aloeswood/chart"
	"aloeswood/design"
	"aloeswood/game"
	"aloeswood/know"
	"aloeswood/score"
)

// P5.7

// Each way of a small stock is drawn, packet by packet.
func TestAllWaysOfSmallStocks(t *testing.T) {
	for _, s := range stocks(6) {
		ways := make([]int, must[int](t)(chart.Count(s.Draw)))
		all := 0
		everyWay(s, func(course []int) {
			rank := must[int](t)(chart.Rank(must[[]int](t)(chart.Of(course))))
			ways[rank]++
			all++
		})
		if l := must[[]int](t)(design.Shapes(s)); !slices.Equal(l, ways) || must[int](t)(design.Ways(s)) != all {
			t.Fatal(s, l, ways, all)
		}
	}
}

func TestShapesAreChances(t *testing.T) {
	random := rand.New(rand.NewPCG(1, 2))
	for _, s := range append(someStocks(random, 150, 6, 6), stocks(7)...) {
		if s.Draw > 6 {
			continue
		}
		l := must[[]int](t)(design.Shapes(s))
		for rank, p := range partitions(t, s.Draw) {
			if n := must[int](t)(design.Chance(s, p)); n != l[rank] {
				t.Fatal(s, p, n, l[rank])
			}
		}
		if all := must[int](t)(design.Ways(s)); sum(l) != all {
			t.Fatal(s, l, all)
		}
	}
}

// Partitions of more packets than Shapes takes have all ways together, too.
func TestChancesOfManyPackets(t *testing.T) {
	random := rand.New(rand.NewPCG(3, 4))
	few := []api.Stock{great(), stock(9, 1, 2, 3, 4, 5), stock(9, 5, 4), stock(7, 2, 2, 2, 2), stock(8, 9)}
	for _, s := range append(few, someStocks(random, 12, 6, 9)...) {
		ways := 0
		for _, p := range partitions(t, s.Draw) {
			ways += must[int](t)(design.Chance(s, p))
		}
		if all := must[int](t)(design.Ways(s)); ways != all {
			t.Error(s, ways, all)
		}
	}
}

// P5.8

func TestKindsInAnotherOrder(t *testing.T) {
	random := rand.New(rand.NewPCG(5, 6))
	for _, s := range someStocks(random, 300, 6, 9) {
		names := random.Perm(len(s.Counts))
		other := api.Stock{Counts: make([]int, len(names)), Draw: s.Draw}
		for kind, name := range names {
			other.Counts[name] = s.Counts[kind]
		}
		if must[int](t)(design.Ways(s)) != must[int](t)(design.Ways(other)) {
			t.Fatal(s, other)
		}
		p := must[[]int](t)(chart.Unrank(s.Draw, random.IntN(must[int](t)(chart.Count(s.Draw)))))
		if must[int](t)(design.Chance(s, p)) != must[int](t)(design.Chance(other, p)) {
			t.Fatal(s, other, p)
		}
		verdict, most, _ := design.Counted(s)
		if v, m, e := design.Counted(other); v != verdict || m != most || e != api.OK {
			t.Fatal(s, other, v, m, e)
		}
		if s.Draw <= 6 {
			guess, ways := guessOf(t, s)
			again, n := guessOf(t, other)
			if !slices.Equal(must[[]int](t)(design.Shapes(s)), must[[]int](t)(design.Shapes(other))) || !slices.Equal(guess, again) || ways != n {
				t.Fatal(s, other, guess, again)
			}
		}
		renamedRest(t, random, s, other, names)
	}
}

// renamedRest fails the test unless, behind each beginning of some course, the same comes next in two stocks, by other names.
func renamedRest(t *testing.T, random *rand.Rand, s, other api.Stock, names []int) {
	t.Helper()
	var seen, renamed []int
	for {
		kinds, sure := restOf(t, s, seen)
		others, n := restOf(t, other, renamed)
		var want []int
		for _, kind := range kinds {
			want = append(want, names[kind])
		}
		slices.Sort(want)
		if !slices.Equal(others, want) || sure != n {
			t.Fatal(s, seen, kinds, sure, other, renamed, others, n)
		}
		if len(kinds) == 0 {
			return
		}
		kind := kinds[random.IntN(len(kinds))]
		seen, renamed = append(seen, kind), append(renamed, names[kind])
	}
}

// P5.9

func TestNoPartitionComesInMoreWaysThanTheGuess(t *testing.T) {
	random := rand.New(rand.NewPCG(7, 8))
	ties := 0
	for _, s := range append(someStocks(random, 150, 6, 6), stocks(6)...) {
		guess, ways := guessOf(t, s)
		behind := false
		for _, p := range partitions(t, s.Draw) {
			n := must[int](t)(design.Chance(s, p))
			if slices.Equal(p, guess) {
				behind = true
				if n != ways {
					t.Fatal(s, guess, ways, n)
				}
			} else if n > ways || n == ways && !behind {
				t.Fatal(s, guess, ways, p, n)
			} else if n == ways {
				ties++
			}
		}
		if !behind {
			t.Fatal(s, guess)
		}
	}
	if ties < 100 {
		t.Error(ties)
	}
}

// P5.10

// What is known is held against all courses of a stock, behind each beginning of each one.
func TestCountingByAllCourses(t *testing.T) {
	for _, s := range append(stocks(6), stock(9, 8, 1), stock(5, 9, 3), stock(5, 3, 3, 3), stock(7, 1, 5, 2)) {
		all := coursesOf(s)
		most, first := 0, 0
		for _, course := range all {
			for n := range s.Draw + 1 {
				kinds, sure := knownOf(all, course[:n])
				if l, k := restOf(t, s, course[:n]); !slices.Equal(l, kinds) || k != sure {
					t.Fatal(s, course[:n], l, k, kinds, sure)
				}
				most = max(most, sure)
				if n == 0 {
					first = sure
				}
				// With one kind left all are known, with more none.
				if len(kinds) == 1 && sure != s.Draw-n || len(kinds) != 1 && sure != 0 {
					t.Fatal(s, course[:n], kinds, sure)
				}
			}
		}
		verdict, n, e := design.Counted(s)
		want := api.Open
		if first == s.Draw {
			want = api.Sure
		} else if most == 0 {
			want = api.Never
		}
		if verdict != want || n != most || e != api.OK {
			t.Fatal(s, verdict, n, e, want, most)
		}
	}
}

// knownOf returns what comes next in those courses that begin so, and how many of the packets behind the beginning are the same in all of them.
func knownOf(courses [][]int, seen []int) (kinds []int, sure int) {
	var agree []int // for each packet its kind, -1 for several
	for _, course := range courses {
		if !slices.Equal(course[:len(seen)], seen) {
			continue
		}
		behind := course[len(seen):]
		if len(behind) > 0 && !slices.Contains(kinds, behind[0]) {
			kinds = append(kinds, behind[0])
		}
		if agree == nil {
			agree = slices.Clone(behind)
		}
		for i, kind := range behind {
			if agree[i] != kind {
				agree[i] = -1
			}
		}
	}
	slices.Sort(kinds)
	for _, kind := range agree {
		if kind >= 0 {
			sure++
		}
	}
	return kinds, sure
}

// In any stock, Counted is what Rest says at most, and it is said somewhere.
func TestCountedIsReached(t *testing.T) {
	random := rand.New(rand.NewPCG(9, 10))
	known := 0
	for _, s := range someStocks(random, 150, 3, 9) {
		most, first := 0, 0
		var walk func(seen []int)
		walk = func(seen []int) {
			kinds, sure := restOf(t, s, seen)
			most = max(most, sure)
			if len(seen) == 0 {
				first = sure
			}
			for _, kind := range kinds {
				walk(append(slices.Clone(seen), kind))
			}
		}
		walk(nil)
		verdict, n, e := design.Counted(s)
		if n != most || e != api.OK || (verdict == api.Sure) != (first == s.Draw) || (verdict == api.Never) != (most == 0) {
			t.Fatal(s, verdict, n, e, first, most)
		}
		if verdict == api.Open {
			known++
		}
	}
	if known < 10 {
		t.Error(known)
	}
}

// P5.11

func TestNoCountsAreFairer(t *testing.T) {
	random := rand.New(rand.NewPCG(11, 12))
	found, missing := 0, 0
	for range 250 {
		b := brew{sum: 1 + random.IntN(12)}
		b.draw = 1 + random.IntN(min(b.sum, 6))
		for range 1 + random.IntN(4) {
			b.limits = append(b.limits, 1+random.IntN(9))
		}
		if b.fairest(t) {
			found++
		} else {
			missing++
		}
	}
	if found < 100 || missing < 20 {
		t.Error(found, missing)
	}
	for _, b := range []brew{{[]int{9, 9, 9, 9, 9, 9}, 12, 6}, {[]int{9, 9, 9, 9, 9, 9}, 12, 4}, {[]int{3, 2, 3, 2, 3, 2}, 12, 5}, {[]int{2, 2, 2, 2, 2, 2}, 12, 6}, {[]int{1, 9, 1, 9, 1, 9}, 11, 3}} {
		if !b.fairest(t) {
			t.Error(b)
		}
	}
}

// fairest fails the test unless Fairest is right of all counts, which are looked at one by one; it tells whether there are such.
func (b brew) fairest(t *testing.T) bool {
	t.Helper()
	counts, ways, all, e := design.Fairest(b.limits, b.sum, b.draw)
	var best []int
	var least, of int
	for l := range every(b.limits) {
		if sum(l) != b.sum {
			continue
		}
		_, n := guessOf(t, stock(b.draw, l...))
		total := must[int](t)(design.Ways(stock(b.draw, l...)))
		if best == nil || n*of < least*total {
			best, least, of = slices.Clone(l), n, total
		}
	}
	if best == nil {
		if e != api.ErrMissing || len(counts) != 0 || ways != 0 || all != 0 {
			t.Fatal(b, counts, ways, all, e)
		}
		return false
	}
	if e != api.OK || !slices.Equal(counts, best) || ways != least || all != of {
		t.Fatal(b, counts, ways, all, e, best, least, of)
	}
	return true
}

// every hands out all lists of numbers from 1 to these limits, in lexicographic order; what is handed out changes afterwards.
func every(limits []int) func(yield func([]int) bool) {
	return func(yield func([]int) bool) {
		l := slices.Repeat([]int{1}, len(limits))
		for yield(l) {
			i := len(l) - 1
			for i >= 0 && l[i] == limits[i] {
				l[i] = 1
				i--
			}
			if i < 0 {
				return
			}
			l[i]++
		}
	}
}

// P5.12, and T6 as far as the orders go

func TestRoundsAreFair(t *testing.T) {
	for n := 1; n <= 12; n++ {
		orders := must[[][]int](t)(design.Rounds(n))
		if e := design.CheckOrders(n, orders); e != api.OK {
			t.Fatal(n, e, orders)
		}
		if d := fairOf(t, n, orders); d != [2]int{0, 0} {
			t.Fatal(n, d, orders)
		}
		first, last := make([]int, n), make([]int, n)
		beside := map[[2]int]int{}
		for _, order := range orders {
			first[order[0]]++
			last[order[n-1]]++
			for i := range n - 1 {
				beside[[2]int{order[i], order[i+1]}]++
				beside[[2]int{order[i+1], order[i]}]++
			}
		}
		for guest := range n {
			if first[guest] != first[0] || last[guest] != last[0] {
				t.Fatal(n, first, last)
			}
			for other := range n {
				if pair := [2]int{guest, other}; guest != other && (beside[pair] == 0 || beside[pair] != beside[[2]int{0, 1}]) {
					t.Fatal(n, pair, beside)
				}
			}
		}
	}
}

// Fair is held against a count of each guest at each place, and of each two guests.
func TestDifferencesAreCounted(t *testing.T) {
	random := rand.New(rand.NewPCG(13, 14))
	for range 400 {
		n := 1 + random.IntN(12)
		var orders [][]int
		for range random.IntN(61) {
			orders = append(orders, random.Perm(n))
		}
		if d := fairOf(t, n, orders); d != differences(n, orders) {
			t.Fatal(n, orders, d)
		}
	}
}

// differences returns both differences of orders.
func differences(n int, orders [][]int) [2]int {
	var places, pairs []int
	for a := range n {
		for b := range n {
			place, pair := 0, 0
			for _, order := range orders {
				if order[b] == a {
					place++
				}
				if slices.Index(order, a) == slices.Index(order, b)+1 {
					pair++
				}
			}
			places = append(places, place)
			if a != b {
				pairs = append(pairs, pair)
			}
		}
	}
	d := [2]int{slices.Max(places) - slices.Min(places), 0}
	if len(pairs) > 0 {
		d[1] = slices.Max(pairs) - slices.Min(pairs)
	}
	return d
}

// P5.13

func TestNoTurnIsBetter(t *testing.T) {
	random := rand.New(rand.NewPCG(15, 16))
	ties := 0
	for i := range 160 {
		n := 1 + i%6
		var orders [][]int
		for range random.IntN(60) {
			if order := random.Perm(n); i%3 == 0 {
				orders = append(orders, order)
			} else {
				// Orders of few kinds leave great differences.
				orders = slices.Insert(orders, 0, slices.Sorted(slices.Values(order)))
			}
		}
		if i%5 == 0 {
			orders = orders[:min(len(orders), n)]
		}
		turn := must[[]int](t)(design.Turn(n, orders))
		least := fairOf(t, n, append(copied(orders), turn))
		for _, order := range ordersOf(n) {
			d := fairOf(t, n, append(copied(orders), order))
			switch c := slices.Compare(d[:], least[:]); {
			case c < 0, c == 0 && slices.Compare(order, turn) < 0:
				t.Fatal(n, orders, turn, least, order, d)
			case c == 0:
				ties++
			}
		}
	}
	if ties < 500 {
		t.Error(ties)
	}
}

func TestTurnsOneAfterTheOther(t *testing.T) {
	for n := 1; n <= 6; n++ {
		var orders [][]int
		for len(orders) < api.MaxRounds {
			orders = append(orders, must[[]int](t)(design.Turn(n, orders)))
			if len(orders) == n {
				for place := range n {
					var guests []int
					for _, order := range orders {
						guests = append(guests, order[place])
					}
					slices.Sort(guests)
					if len(slices.Compact(guests)) != n {
						t.Fatal(n, place, orders)
					}
				}
			}
			if d := fairOf(t, n, orders); d[0] > 1 || len(orders)%n == 0 && d[0] != 0 {
				t.Fatal(n, orders, d)
			}
		}
		if _, e := design.Turn(n, orders); e != api.ErrFull {
			t.Error(n, e)
		}
	}
}

// T4

// gameOf returns the game in which the packets of a stock are mixed, and those that are drawn are passed.
func gameOf(s api.Stock) api.Game {
	var g api.Game
	for kind, count := range s.Counts {
		g.Woods = append(g.Woods, api.Wood{Name: string(rune('a' + kind))})
		g.Deals = append(g.Deals, api.Deal{Kind: api.DealMix, Wood: kind, Count: count})
	}
	g.Deals = append(g.Deals, api.Deal{Kind: api.DealPass, Count: s.Draw})
	return g
}

func TestAStockIsAsItsGame(t *testing.T) {
	random := rand.New(rand.NewPCG(17, 18))
	some := slices.DeleteFunc(someStocks(random, 400, 6, 9), func(s api.Stock) bool { return sum(s.Counts) > api.MaxStock })
	if len(some) < 50 {
		t.Fatal(len(some))
	}
	same := api.Ask{Kind: api.AskSame}
	for _, s := range append(some, stocks(5)...) {
		answers, ways, e := game.Answers(gameOf(s), same)
		if e == api.ErrFull {
			continue
		}
		if e != api.OK {
			t.Fatal(s, e)
		}
		left := must[int](t)(design.Ways(s))
		for i, p := range answers {
			if n := must[int](t)(design.Chance(s, p)); n != ways[i] {
				t.Fatal(s, p, n, ways[i])
			}
			left -= ways[i]
		}
		// The others come in no way.
		if left != 0 {
			t.Fatal(s, left)
		}
		if s.Draw <= api.MaxShaped {
			blind(t, s, answers, ways)
		}
	}
}

// blind fails the test unless the best guess is the best answer of a guest that knows nothing, and is all right in just as many ways as it has, and no other one in more.
func blind(t *testing.T, s api.Stock, truths [][]int, ways []int) {
	t.Helper()
	guess, most := guessOf(t, s)
	answer, right, of, e := know.Best(api.Mind{Game: gameOf(s)}, api.Ask{Kind: api.AskSame}, api.PointWhole)
	if e != api.OK || !slices.Equal(answer, guess) || right != most || of != must[int](t)(design.Ways(s)) {
		t.Fatal(s, guess, most, answer, right, of, e)
	}
	for rank, p := range partitions(t, s.Draw) {
		n := 0
		for i, truth := range truths {
			n += ways[i] * must[api.Score](t)(score.Mark(api.Scoring{Whole: 1}, truth, p)).Points
		}
		if n > most || slices.Equal(p, guess) && n != most {
			t.Fatal(s, rank, p, n, guess, most)
		}
	}
}
