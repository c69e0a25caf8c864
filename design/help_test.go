package design_test

import (
	"math/rand/v2"
	"slices"
	"testing"

	"aloeswood/api"
	"aloeswood/chart"
	"aloeswood/design"
)

// stock returns a stock of which so many packets are drawn.
func stock(draw int, counts ...int) api.Stock { return api.Stock{Counts: counts, Draw: draw} }

// stockS and stockU are the stocks S and U of the chapter, great is the greatest one.
func stockS() api.Stock { return stock(3, 2, 2) }

func stockU() api.Stock { return stock(4, 3, 1) }

func great() api.Stock { return stock(9, 9, 9, 9, 9, 9, 9) }

// of returns the partition of a word, without a check.
func of(word string) []int {
	var p []int
	for i := range len(word) {
		p = append(p, int(word[i])-'A')
	}
	return p
}

// must fails the test unless there was no error.
func must[T any](t *testing.T) func(v T, e api.Errno) T {
	return func(v T, e api.Errno) T {
		t.Helper()
		if e != api.OK {
			t.Fatal("unexpected", e)
		}
		return v
	}
}

// guessOf returns the best guess and its ways, of which there is no error.
func guessOf(t *testing.T, s api.Stock) (p []int, ways int) {
	t.Helper()
	p, ways, e := design.Guess(s)
	if e != api.OK {
		t.Fatal("unexpected", e, s)
	}
	return p, ways
}

// restOf returns what may come next, and how much is sure, of which there is no error.
func restOf(t *testing.T, s api.Stock, seen []int) (kinds []int, sure int) {
	t.Helper()
	kinds, sure, e := design.Rest(s, seen)
	if e != api.OK {
		t.Fatal("unexpected", e, s, seen)
	}
	return kinds, sure
}

// fairOf returns both differences of orders, of which there is no error.
func fairOf(t *testing.T, n int, orders [][]int) [2]int {
	t.Helper()
	place, neighbour, e := design.Fair(n, orders)
	if e != api.OK {
		t.Fatal("unexpected", e, n, orders)
	}
	return [2]int{place, neighbour}
}

// same tells whether two lists of lists are equal.
func same(a, b [][]int) bool { return slices.EqualFunc(a, b, slices.Equal[[]int]) }

// copied returns a list of lists that shares nothing with the given one.
func copied(l [][]int) [][]int {
	var c [][]int
	for _, row := range l {
		c = append(c, slices.Clone(row))
	}
	return c
}

// sum returns the sum of numbers.
func sum(numbers []int) int {
	s := 0
	for _, n := range numbers {
		s += n
	}
	return s
}

// partitions returns all partitions of n packets, by their ranks.
func partitions(t *testing.T, n int) [][]int {
	t.Helper()
	l := make([][]int, must[int](t)(chart.Count(n)))
	for rank := range l {
		l[rank] = must[[]int](t)(chart.Unrank(n, rank))
	}
	return l
}

// stocks returns all stocks of so many packets in all, or fewer.
func stocks(packets int) []api.Stock {
	var l []api.Stock
	var more func(counts []int, left int)
	more = func(counts []int, left int) {
		for draw := 1; draw <= min(sum(counts), 9); draw++ {
			l = append(l, stock(draw, counts...))
		}
		for count := 1; count <= min(left, 9) && len(counts) < 6; count++ {
			more(append(slices.Clone(counts), count), left-count)
		}
	}
	more(nil, packets)
	return l
}

// someStocks returns stocks of any size.
func someStocks(random *rand.Rand, n, kinds, draw int) []api.Stock {
	var l []api.Stock
	for range n {
		var s api.Stock
		for range 1 + random.IntN(kinds) {
			s.Counts = append(s.Counts, 1+random.IntN(9))
		}
		s.Draw = 1 + random.IntN(min(draw, sum(s.Counts)))
		l = append(l, s)
	}
	return l
}

// everyWay draws the packets of a stock in each way that there is, one by one, and says the course of each.
func everyWay(s api.Stock, said func(course []int)) {
	var packets []int
	for kind, count := range s.Counts {
		packets = append(packets, slices.Repeat([]int{kind}, count)...)
	}
	gone := make([]bool, len(packets))
	var draw func(course []int)
	draw = func(course []int) {
		if len(course) == s.Draw {
			said(course)
			return
		}
		for i, kind := range packets {
			if !gone[i] {
				gone[i] = true
				draw(append(slices.Clone(course), kind))
				gone[i] = false
			}
		}
	}
	draw(nil)
}

// coursesOf returns all courses of a stock, each once.
func coursesOf(s api.Stock) [][]int {
	l := [][]int{{}}
	for range s.Draw {
		var longer [][]int
		for _, begun := range l {
			for kind, count := range s.Counts {
				for _, k := range begun {
					if k == kind {
						count--
					}
				}
				if count > 0 {
					longer = append(longer, append(slices.Clone(begun), kind))
				}
			}
		}
		l = longer
	}
	return l
}

// ordersOf returns all orders of n guests: those of fewer, with the last guest at each place; sorted.
func ordersOf(n int) [][]int {
	l := [][]int{{}}
	for guest := range n {
		var longer [][]int
		for _, order := range l {
			for place := range guest + 1 {
				longer = append(longer, slices.Insert(slices.Clone(order), place, guest))
			}
		}
		l = longer
	}
	slices.SortFunc(l, slices.Compare[[]int])
	return l
}

// fault is a stock that is not valid, and its first error.
type fault struct {
	s api.Stock
	e api.Errno
}

// refusals returns what each function of a stock says of one, and whether all else is zero. What comes beside the stock is wrong, too.
func refusals(s api.Stock) (said map[string]api.Errno, zero bool) {
	ways, a := design.Ways(s)
	chance, b := design.Chance(s, []int{9})
	shapes, c := design.Shapes(s)
	p, n, d := design.Guess(s)
	kinds, sure, f := design.Rest(s, []int{9})
	verdict, most, g := design.Counted(s)
	said = map[string]api.Errno{"Check": design.Check(s), "Ways": a, "Chance": b, "Shapes": c, "Guess": d, "Rest": f, "Counted": g}
	return said, ways == 0 && chance == 0 && len(shapes) == 0 && len(p) == 0 && n == 0 && len(kinds) == 0 && sure == 0 && verdict == 0 && most == 0
}
