package design_test

import (
	"math"
	"slices"
	"testing"

	"aloeswood/api"
	"aloeswood/design"
)

// P5.1

// faults are stocks that are not valid.
func faults() map[string]fault {
	return map[string]fault{
		"nothing":                         {api.Stock{}, api.ErrShort},
		"no kinds":                        {stock(1), api.ErrShort},
		"no kinds, and too many drawn":    {stock(10), api.ErrShort},
		"seven kinds":                     {stock(1, 1, 1, 1, 1, 1, 1, 1), api.ErrFull},
		"seven kinds without packets":     {stock(1, make([]int, 7)...), api.ErrFull},
		"seven kinds, and none drawn":     {stock(0, 1, 1, 1, 1, 1, 1, 1), api.ErrFull},
		"no packet of a kind":             {stock(1, 0), api.ErrRange},
		"no packet of the last kind":      {stock(1, 2, 2, 0), api.ErrRange},
		"below 0":                         {stock(1, 2, -1), api.ErrRange},
		"ten of a kind":                   {stock(1, 10), api.ErrRange},
		"ten of the sixth kind":           {stock(1, 9, 9, 9, 9, 9, 10), api.ErrRange},
		"counts beyond all numbers":       {stock(1, math.MaxInt, math.MaxInt), api.ErrRange},
		"a sum that is right nonetheless": {stock(3, 4, -2, 2), api.ErrRange},
		"none drawn":                      {stock(0, 2), api.ErrRange},
		"fewer than none drawn":           {stock(-1, 2), api.ErrRange},
		"the least number drawn":          {stock(math.MinInt, 2), api.ErrRange},
		"more drawn than there are":       {stock(5, 2, 2), api.ErrRange},
		"two drawn of one":                {stock(2, 1), api.ErrRange},
		"ten drawn":                       {stock(10, 9, 9), api.ErrRange},
		"ten drawn of ten":                {stock(10, 9, 1), api.ErrRange},
		"the greatest number drawn":       {stock(math.MaxInt, 9, 9), api.ErrRange},
	}
}

func TestStocksThatAreNotValid(t *testing.T) {
	for name, c := range faults() {
		said, zero := refusals(c.s)
		if !zero {
			t.Error(name, "not all is zero")
		}
		for function, e := range said {
			if e != c.e {
				t.Errorf("%s of %s: %v, want %v", function, name, e, c.e)
			}
		}
	}
}

func TestWaysOfStocks(t *testing.T) {
	for _, c := range []struct {
		s    api.Stock
		want int
	}{
		{stockS(), 24}, {stockU(), 24}, {stock(1, 1), 1}, {stock(1, 9), 9}, {stock(9, 9), 362880}, {stock(2, 3, 2), 20}, {stock(4, 2, 2), 24},
		{stock(1, 1, 1, 1, 1, 1, 1), 6}, {stock(6, 1, 1, 1, 1, 1, 1), 720}, {stock(1, 9, 9, 9, 9, 9, 9), 54}, {great(), 1929772710028800},
	} {
		if ways := must[int](t)(design.Ways(c.s)); ways != c.want || design.Check(c.s) != api.OK {
			t.Error(c, ways)
		}
	}
}

func TestChanceOfAPartition(t *testing.T) {
	for _, c := range []struct {
		s    api.Stock
		word string
		want int
	}{
		{stockS(), "AAB", 8}, {stockS(), "ABA", 8}, {stockS(), "AAA", 0}, {stockS(), "ABC", 0}, {stockU(), "AAAB", 6}, {stockU(), "AABB", 0}, {stockU(), "AAAA", 0},
		{stock(1, 1), "A", 1}, {stock(1, 3, 2, 1), "A", 6}, {stock(3, 3, 2, 1), "ABB", 26}, {stock(3, 3, 2, 1), "AAA", 6}, {stock(3, 3, 2, 1), "ABC", 36},
		// Six kinds of 9: one alone has 9!/0! ways; six of six have 6! 9^6; more kinds than there are have none.
		{great(), "AAAAAAAAA", 2177280}, {great(), "ABCDEFGHI", 0}, {great(), "ABCDEFGGG", 0}, {great(), "ABCDEFABC", 720 * 72 * 72 * 72 * 729}, {great(), "AAAABCDEF", 720 * 3024 * 59049},
		{stock(6, 9, 9, 9, 9, 9, 9), "ABCDEF", 720 * 531441}, {stock(9, 9), "AAAAAAAAA", 362880}, {stock(9, 9), "AAAAAAAAB", 0},
		// The kinds 2 and 3 differ: either one is the greater block.
		{stock(5, 3, 2), "AAABB", 12}, {stock(5, 3, 2), "ABBAB", 12}, {stock(4, 3, 2), "ABAB", 24},
	} {
		if n := must[int](t)(design.Chance(c.s, of(c.word))); n != c.want {
			t.Error(c, n)
		}
	}
}

func TestChanceOfWhatIsNoPartition(t *testing.T) {
	for _, c := range []struct {
		p []int
		e api.Errno
	}{
		{nil, api.ErrShort}, {[]int{}, api.ErrShort}, {make([]int, 10), api.ErrFull}, {[]int{1}, api.ErrOrder}, {[]int{0, 9}, api.ErrRange}, {[]int{0, math.MinInt, 0}, api.ErrRange}, {[]int{0, 2, 1}, api.ErrOrder},
		{of("A"), api.ErrForm}, {of("AB"), api.ErrForm}, {of("AABB"), api.ErrForm}, {of("ABCDEFGHI"), api.ErrForm},
		// What is wrong with a partition comes before its length.
		{[]int{0, 1, 0, 3}, api.ErrOrder}, {[]int{-1}, api.ErrRange},
	} {
		if n, e := design.Chance(stockS(), c.p); n != 0 || e != c.e {
			t.Error(c, n, e)
		}
	}
}

// P5.2

func TestShapesAndGuesses(t *testing.T) {
	for _, c := range []struct {
		s      api.Stock
		shapes []int
		guess  string
		ways   int
	}{
		{stockS(), []int{0, 8, 8, 8, 0}, "AAB", 8},
		{stockU(), []int{0, 6, 6, 0, 0, 6, 0, 0, 0, 6, 0, 0, 0, 0, 0}, "AAAB", 6},
		{stock(1, 1), []int{1}, "A", 1},
		{stock(1, 9, 9, 9, 9, 9, 9), []int{54}, "A", 54},
		{stock(2, 3, 2), []int{8, 12}, "AB", 12},
		// As many both ways: the first one.
		{stock(2, 3, 1), []int{6, 6}, "AA", 6},
		{stock(2, 1, 3), []int{6, 6}, "AA", 6},
		{stock(3, 3, 2, 1), []int{6, 26, 26, 26, 36}, "ABC", 36},
		{stock(3, 5), []int{60, 0, 0, 0, 0}, "AAA", 60},
		{stock(2, 1, 1), []int{0, 2}, "AB", 2},
	} {
		l := must[[]int](t)(design.Shapes(c.s))
		if p, ways := guessOf(t, c.s); !slices.Equal(l, c.shapes) || !slices.Equal(p, of(c.guess)) || ways != c.ways {
			t.Error(c, l, p, ways)
		}
	}
}

func TestShapesOfManyPackets(t *testing.T) {
	for _, s := range []api.Stock{stock(7, 9), great(), stock(7, 2, 2, 2, 2), stock(9, 5, 4), stock(8, 1, 1, 1, 1, 1, 3)} {
		l, e := design.Shapes(s)
		p, ways, f := design.Guess(s)
		if e != api.ErrFull || f != api.ErrFull || len(l)+len(p) != 0 || ways != 0 {
			t.Error(s, l, p, ways, e, f)
		}
	}
	// Six packets are not too many.
	l := must[[]int](t)(design.Shapes(stock(6, 9, 9, 9, 9, 9, 9)))
	if len(l) != 203 || l[0] != 6*60480 || l[202] != 720*531441 || sum(l) != 54*53*52*51*50*49 {
		t.Error(l)
	}
	if p, ways := guessOf(t, stock(6, 9)); !slices.Equal(p, of("AAAAAA")) || ways != 60480 {
		t.Error(p, ways)
	}
}

// P5.3

func TestRest(t *testing.T) {
	for _, c := range []struct {
		s     api.Stock
		seen  []int
		kinds []int
		sure  int
	}{
		{stockS(), nil, []int{0, 1}, 0}, {stockS(), []int{0}, []int{0, 1}, 0}, {stockS(), []int{0, 0}, []int{1}, 1}, {stockS(), []int{1, 1}, []int{0}, 1}, {stockS(), []int{0, 1}, []int{0, 1}, 0},
		// All were seen: nothing comes, although packets are left.
		{stockS(), []int{0, 0, 1}, nil, 0}, {stockS(), []int{1, 0, 1}, nil, 0}, {stock(1, 9), []int{0}, nil, 0}, {stock(4, 2, 2), []int{0, 1, 1, 0}, nil, 0},
		{stockU(), nil, []int{0, 1}, 0}, {stockU(), []int{1}, []int{0}, 3}, {stockU(), []int{0, 0}, []int{0, 1}, 0}, {stockU(), []int{0, 1}, []int{0}, 2}, {stockU(), []int{0, 0, 0}, []int{1}, 1},
		{stock(2, 5), nil, []int{0}, 2}, {stock(9, 9), []int{0, 0, 0}, []int{0}, 6}, {stock(5, 2, 1, 2), []int{1, 2, 2}, []int{0}, 2}, {stock(5, 2, 1, 2), []int{1, 2, 0}, []int{0, 2}, 0}, {stock(5, 2, 1, 2), []int{2, 2}, []int{0, 1}, 0},
		// Fewer come than there are left of the kind.
		{stock(3, 9, 1), []int{1}, []int{0}, 2}, {great(), []int{5, 5, 5, 5, 5, 5, 5, 5}, []int{0, 1, 2, 3, 4, 5}, 0},
	} {
		if kinds, sure := restOf(t, c.s, c.seen); !slices.Equal(kinds, c.kinds) || sure != c.sure {
			t.Error(c, kinds, sure)
		}
	}
}

func TestWhatCannotHaveBeenSeen(t *testing.T) {
	for _, c := range []struct {
		seen []int
		e    api.Errno
	}{
		{[]int{0, 0, 0}, api.ErrOver}, {[]int{1, 1, 1}, api.ErrOver}, {[]int{2}, api.ErrMissing}, {[]int{-1}, api.ErrMissing}, {[]int{0, 1, math.MaxInt}, api.ErrMissing}, {[]int{math.MinInt}, api.ErrMissing}, {[]int{0, 0, 2}, api.ErrMissing},
		{[]int{0, 1, 0, 1}, api.ErrFull}, {[]int{0, 0, 0, 0}, api.ErrFull}, {[]int{2, 2, 2, 2}, api.ErrFull}, {make([]int, 100000), api.ErrFull},
	} {
		if kinds, sure, e := design.Rest(stockS(), c.seen); len(kinds) != 0 || sure != 0 || e != c.e {
			t.Error(c, kinds, sure, e)
		}
	}
	// All are kinds before one of them comes too often, also if that one comes first.
	if _, _, e := design.Rest(stock(5, 1, 2, 4), []int{0, 0, 3}); e != api.ErrMissing {
		t.Error(e)
	}
	if _, _, e := design.Rest(stock(5, 1, 2, 4), []int{0, 0, 5, 0}); e != api.ErrMissing {
		t.Error(e)
	}
	if _, _, e := design.Rest(stock(5, 1, 2, 4), []int{2, 0, 0}); e != api.ErrOver {
		t.Error(e)
	}
}

func TestCounted(t *testing.T) {
	for _, c := range []struct {
		s             api.Stock
		verdict, most int
	}{
		{stockS(), api.Open, 1}, {stockU(), api.Open, 3}, {stock(2, 5), api.Sure, 2}, {stock(2, 2, 2), api.Never, 0}, {stock(1, 1), api.Sure, 1}, {stock(9, 9), api.Sure, 9}, {stock(4, 2, 2), api.Open, 2},
		{stock(9, 9, 1), api.Open, 8}, {stock(9, 1, 9), api.Open, 8}, {stock(1, 1, 1), api.Never, 0}, {stock(2, 1, 1), api.Open, 1}, {stock(1, 9, 1), api.Never, 0}, {stock(2, 9, 1), api.Open, 1},
		{great(), api.Never, 0}, {stock(9, 4, 2, 3), api.Open, 4}, {stock(5, 4, 2, 3), api.Never, 0}, {stock(6, 4, 2, 3), api.Open, 1}, {stock(6, 1, 1, 1, 1, 1, 1), api.Open, 1}, {stock(5, 1, 1, 1, 1, 1, 1), api.Never, 0},
	} {
		if verdict, most, e := design.Counted(c.s); verdict != c.verdict || most != c.most || e != api.OK {
			t.Error(c, verdict, most, e)
		}
	}
}

// P5.4

// brew is what Fairest is called with.
type brew struct {
	limits    []int
	sum, draw int
}

func TestFairest(t *testing.T) {
	for _, c := range []struct {
		brew
		counts    []int
		ways, all int
	}{
		{brew{[]int{4, 4}, 4, 2}, []int{1, 3}, 6, 12}, {brew{[]int{2, 2}, 4, 2}, []int{2, 2}, 8, 12}, {brew{[]int{3, 2}, 4, 2}, []int{3, 1}, 6, 12}, {brew{[]int{9}, 9, 6}, []int{9}, 60480, 60480},
		{brew{[]int{5}, 5, 3}, []int{5}, 60, 60}, {brew{[]int{1, 1, 1}, 3, 1}, []int{1, 1, 1}, 3, 3}, {brew{[]int{1}, 1, 1}, []int{1}, 1, 1},
		// One alone has one partition: all are as fair, and the first one is taken.
		{brew{[]int{9, 9}, 12, 1}, []int{3, 9}, 12, 12}, {brew{[]int{9, 9, 9, 9, 9, 9}, 12, 1}, []int{1, 1, 1, 1, 1, 7}, 12, 12},
		// Two of two kinds: as near as can be to half of the ways for each partition. 3 and 6: 36 of 72; 4 and 5: 40; 2 and 7: 44.
		{brew{[]int{9, 9}, 9, 2}, []int{3, 6}, 36, 72}, {brew{[]int{9, 5}, 9, 2}, []int{6, 3}, 36, 72}, {brew{[]int{9, 2}, 9, 2}, []int{7, 2}, 44, 72},
	} {
		counts, ways, all, e := design.Fairest(c.limits, c.sum, c.draw)
		if !slices.Equal(counts, c.counts) || ways != c.ways || all != c.all || e != api.OK {
			t.Error(c, counts, ways, all, e)
		}
	}
}

func TestFairestRefuses(t *testing.T) {
	for name, c := range map[string]struct {
		brew
		e api.Errno
	}{
		"no limits":                          {brew{nil, 4, 2}, api.ErrShort},
		"no limits, and no sum":              {brew{[]int{}, 0, 0}, api.ErrShort},
		"seven limits":                       {brew{[]int{1, 1, 1, 1, 1, 1, 1}, 7, 2}, api.ErrFull},
		"seven limits out of range":          {brew{make([]int, 7), 13, 7}, api.ErrFull},
		"the limit 0":                        {brew{[]int{0}, 4, 2}, api.ErrRange},
		"the limit 10":                       {brew{[]int{4, 10}, 4, 2}, api.ErrRange},
		"a limit below 0":                    {brew{[]int{math.MinInt, 4}, 4, 2}, api.ErrRange},
		"a limit far off":                    {brew{[]int{4, math.MaxInt, math.MaxInt}, 4, 2}, api.ErrRange},
		"the sum 0":                          {brew{[]int{4}, 0, 0}, api.ErrRange},
		"the sum 0, one drawn":               {brew{[]int{4}, 0, 1}, api.ErrRange},
		"a sum below 0":                      {brew{[]int{4}, math.MinInt, 1}, api.ErrRange},
		"the sum 13":                         {brew{[]int{9, 9}, 13, 2}, api.ErrRange},
		"a sum far off":                      {brew{[]int{9, 9}, math.MaxInt, 2}, api.ErrRange},
		"none drawn":                         {brew{[]int{4, 4}, 4, 0}, api.ErrRange},
		"fewer than none drawn":              {brew{[]int{4, 4}, 4, math.MinInt}, api.ErrRange},
		"seven drawn":                        {brew{[]int{9, 9}, 12, 7}, api.ErrRange},
		"many drawn":                         {brew{[]int{9, 9}, 12, math.MaxInt}, api.ErrRange},
		"more drawn than there are":          {brew{[]int{4}, 2, 3}, api.ErrRange},
		"more drawn than there are of three": {brew{[]int{1, 1, 1}, 2, 3}, api.ErrRange},
		"a sum above all limits":             {brew{[]int{1, 1}, 3, 2}, api.ErrMissing},
		"a sum above one limit":              {brew{[]int{9}, 10, 2}, api.ErrMissing},
		"a sum below the number of kinds":    {brew{[]int{2, 2}, 1, 1}, api.ErrMissing},
		"six kinds of five":                  {brew{[]int{9, 9, 9, 9, 9, 9}, 5, 5}, api.ErrMissing},
	} {
		if counts, ways, all, e := design.Fairest(c.limits, c.sum, c.draw); len(counts) != 0 || ways != 0 || all != 0 || e != c.e {
			t.Error(name, counts, ways, all, e)
		}
	}
}

// P5.5

// circles are orders that are not valid, with the first error of each.
func circles() map[string]struct {
	n      int
	orders [][]int
	e      api.Errno
} {
	type circle = struct {
		n      int
		orders [][]int
		e      api.Errno
	}
	return map[string]circle{
		"no guest":                     {0, nil, api.ErrRange},
		"no guest in an empty order":   {0, [][]int{{}}, api.ErrRange},
		"fewer than none":              {-1, nil, api.ErrRange},
		"the least number":             {math.MinInt, nil, api.ErrRange},
		"13 guests":                    {13, nil, api.ErrRange},
		"13 guests, 61 orders":         {13, make([][]int, 61), api.ErrRange},
		"the greatest number":          {math.MaxInt, [][]int{{0}}, api.ErrRange},
		"61 orders":                    {2, slices.Repeat([][]int{{0, 1}}, 61), api.ErrFull},
		"61 orders without guests":     {2, make([][]int, 61), api.ErrFull},
		"an order without guests":      {2, [][]int{nil}, api.ErrForm},
		"an order of fewer":            {2, [][]int{{0}}, api.ErrForm},
		"an order of more":             {2, [][]int{{0, 1, 2}}, api.ErrForm},
		"an order with a guest more":   {2, [][]int{{0, 1, 1}}, api.ErrForm},
		"a guest twice":                {3, [][]int{{0, 1, 0}}, api.ErrForm},
		"a guest that is none":         {2, [][]int{{0, 2}}, api.ErrForm},
		"a guest below 0":              {2, [][]int{{-1, 0}}, api.ErrForm},
		"a guest far off":              {2, [][]int{{0, math.MaxInt}}, api.ErrForm},
		"a guest far below":            {2, [][]int{{math.MinInt, 0}}, api.ErrForm},
		"only the last one":            {2, [][]int{{0, 1}, {1, 0}, {1, 1}}, api.ErrForm},
		"an order of very many":        {2, [][]int{make([]int, 100000)}, api.ErrForm},
		"the last guest twice":         {12, [][]int{{0, 1, 2, 3, 4, 5, 6, 7, 8, 9, 11, 11}}, api.ErrForm},
		"one too many in a full round": {12, [][]int{{0, 1, 2, 3, 4, 5, 6, 7, 8, 9, 10, 12}}, api.ErrForm},
	}
}

func TestOrdersThatAreNotValid(t *testing.T) {
	for name, c := range circles() {
		place, neighbour, e := design.Fair(c.n, c.orders)
		order, f := design.Turn(c.n, c.orders)
		if g := design.CheckOrders(c.n, c.orders); e != c.e || f != c.e || g != c.e || place != 0 || neighbour != 0 || len(order) != 0 {
			t.Error(name, place, neighbour, order, e, f, g)
		}
	}
}

func TestFair(t *testing.T) {
	long := []int{0, 1, 2, 3, 4, 5, 6, 7, 8, 9, 10, 11}
	for _, c := range []struct {
		n      int
		orders [][]int
		want   [2]int
	}{
		{3, [][]int{{0, 1, 2}, {1, 2, 0}}, [2]int{1, 2}}, {2, [][]int{{0, 1}, {1, 0}}, [2]int{0, 0}}, {2, [][]int{{0, 1}}, [2]int{1, 1}}, {2, [][]int{{0, 1}, {0, 1}}, [2]int{2, 2}}, {2, [][]int{{0, 1}, {1, 0}, {0, 1}}, [2]int{1, 1}},
		{1, nil, [2]int{0, 0}}, {3, nil, [2]int{0, 0}}, {12, [][]int{}, [2]int{0, 0}},
		// One guest alone has its place always, and nobody behind it.
		{1, [][]int{{0}}, [2]int{0, 0}}, {1, slices.Repeat([][]int{{0}}, 60), [2]int{0, 0}},
		{3, [][]int{{0, 1, 2}, {1, 2, 0}, {2, 0, 1}}, [2]int{0, 2}}, {3, [][]int{{0, 1, 2}, {0, 2, 1}}, [2]int{2, 1}}, {3, [][]int{{0, 1, 2}, {2, 1, 0}}, [2]int{2, 1}},
		// Directly behind 0 came 1 twice, directly behind 1 never 0.
		{4, [][]int{{0, 1, 2, 3}, {2, 3, 0, 1}}, [2]int{1, 2}},
		// Behind is not before: that 1 comes behind 0, and 0 behind 1, is not the same.
		{4, [][]int{{0, 1, 2, 3}, {1, 0, 3, 2}}, [2]int{1, 1}},
		{2, slices.Repeat([][]int{{1, 0}}, 60), [2]int{60, 60}}, {12, slices.Repeat([][]int{long}, 60), [2]int{60, 60}}, {12, [][]int{long}, [2]int{1, 1}},
	} {
		if got := fairOf(t, c.n, c.orders); got != c.want || design.CheckOrders(c.n, c.orders) != api.OK {
			t.Error(c, got)
		}
	}
}

func TestRounds(t *testing.T) {
	for n, want := range [][][]int{
		1: {{0}},
		2: {{0, 1}, {1, 0}},
		3: {{0, 1, 2}, {1, 2, 0}, {2, 0, 1}, {2, 1, 0}, {0, 2, 1}, {1, 0, 2}},
		4: {{0, 1, 3, 2}, {1, 2, 0, 3}, {2, 3, 1, 0}, {3, 0, 2, 1}},
		5: {{0, 1, 4, 2, 3}, {1, 2, 0, 3, 4}, {2, 3, 1, 4, 0}, {3, 4, 2, 0, 1}, {4, 0, 3, 1, 2}, {3, 2, 4, 1, 0}, {4, 3, 0, 2, 1}, {0, 4, 1, 3, 2}, {1, 0, 2, 4, 3}, {2, 1, 3, 0, 4}},
		6: {{0, 1, 5, 2, 4, 3}, {1, 2, 0, 3, 5, 4}, {2, 3, 1, 4, 0, 5}, {3, 4, 2, 5, 1, 0}, {4, 5, 3, 0, 2, 1}, {5, 0, 4, 1, 3, 2}},
	} {
		if n == 0 {
			continue
		}
		if l := must[[][]int](t)(design.Rounds(n)); !same(l, want) {
			t.Error(n, l)
		}
	}
	if l := must[[][]int](t)(design.Rounds(12)); len(l) != 12 || !slices.Equal(l[0], []int{0, 1, 11, 2, 10, 3, 9, 4, 8, 5, 7, 6}) || !slices.Equal(l[11], []int{11, 0, 10, 1, 9, 2, 8, 3, 7, 4, 6, 5}) {
		t.Error(l)
	}
	if l := must[[][]int](t)(design.Rounds(11)); len(l) != 22 || !slices.Equal(l[0], []int{0, 1, 10, 2, 9, 3, 8, 4, 7, 5, 6}) || !slices.Equal(l[21], []int{5, 4, 6, 3, 7, 2, 8, 1, 9, 0, 10}) {
		t.Error(l)
	}
	for _, n := range []int{0, -1, 13, math.MinInt, math.MaxInt} {
		if l, e := design.Rounds(n); len(l) != 0 || e != api.ErrRange {
			t.Error(n, l, e)
		}
	}
}

// P5.6

func TestTurn(t *testing.T) {
	for _, c := range []struct {
		n      int
		orders [][]int
		want   []int
	}{
		{3, nil, []int{0, 1, 2}}, {1, nil, []int{0}}, {1, [][]int{{0}, {0}}, []int{0}}, {6, nil, []int{0, 1, 2, 3, 4, 5}}, {2, [][]int{{0, 1}}, []int{1, 0}}, {2, [][]int{{1, 0}}, []int{0, 1}},
		{3, [][]int{{0, 1, 2}, {1, 2, 0}}, []int{2, 0, 1}}, {2, [][]int{{0, 1}, {1, 0}}, []int{0, 1}}, {2, [][]int{{0, 1}, {0, 1}}, []int{1, 0}},
		// The place difference comes first: 1 2 0 and 2 0 1 alone leave 1, although others leave a lesser neighbour difference.
		{3, [][]int{{0, 1, 2}}, []int{1, 2, 0}},
		// All leave the place difference 1, but 0 1 2, which is the first one, leaves the neighbour difference 3, and 0 2 1 leaves 2.
		{3, [][]int{{0, 1, 2}, {1, 2, 0}, {2, 0, 1}}, []int{0, 2, 1}},
		// No guest has its place again, and no neighbour.
		{4, [][]int{{0, 1, 2, 3}}, []int{1, 0, 3, 2}},
	} {
		if order := must[[]int](t)(design.Turn(c.n, c.orders)); !slices.Equal(order, c.want) {
			t.Error(c, order)
		}
	}
}

func TestTurnRefuses(t *testing.T) {
	sixty := slices.Repeat([][]int{{0, 1}}, 60)
	for _, c := range []struct {
		n      int
		orders [][]int
		e      api.Errno
	}{
		{7, nil, api.ErrFull}, {12, nil, api.ErrFull}, {7, [][]int{{6, 5, 4, 3, 2, 1, 0}}, api.ErrFull}, {2, sixty, api.ErrFull}, {6, slices.Repeat([][]int{{0, 1, 2, 3, 4, 5}}, 60), api.ErrFull},
		// What is wrong with the orders comes first.
		{7, [][]int{{0}}, api.ErrForm}, {2, append(slices.Clone(sixty[1:]), []int{1, 1}), api.ErrForm}, {13, nil, api.ErrRange},
	} {
		if order, e := design.Turn(c.n, c.orders); len(order) != 0 || e != c.e {
			t.Error(c.n, len(c.orders), order, e)
		}
	}
	// 59 orders are not too many.
	if order := must[[]int](t)(design.Turn(2, sixty[1:])); !slices.Equal(order, []int{1, 0}) {
		t.Error(order)
	}
}
