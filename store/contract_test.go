package store_test

import (
	"math"
	"regexp"
	"slices"
	"strconv"
	"strings"
	"testing"

	"aloeswood/api"
	"aloeswood/store"
)

// The chapter's examples.
func TestExamples(t *testing.T) {
	c, s := chainC(), seasonS()
	clash := chainWith(func(c *api.Chain) { c.Links = append(c.Links, link(1, 0, span(5, 9))) })
	order := chainWith(func(c *api.Chain) { c.Made = span(20, 10) })
	if said := []api.Errno{store.CheckChain(c), store.CheckChain(clash), store.CheckChain(order)}; !slices.Equal(said, []api.Errno{api.OK, api.ErrClash, api.ErrOrder}) {
		t.Error(said)
	}
	if l := must[[][]int](t)(store.Orders(c)); !equal(l, [][]int{{1, 0}}) || !slices.Equal(daysOf(t, c), []api.Span{span(10, 20), span(30, 40), span(15, 35)}) {
		t.Error(l, daysOf(t, c))
	}
	for day, want := range map[int][]int{9: {-1}, 18: {-1, 0, 1}, 32: {0, 1, 2}, 40: {2}} {
		if l := must[[]int](t)(store.Holders(c, day)); !slices.Equal(l, want) {
			t.Error(day, l)
		}
	}
	for at, want := range map[[2]int]int{{2, 40}: api.Sure, {1, 32}: api.Open, {3, 32}: api.Never} {
		if verdict := must[int](t)(store.Owned(c, at[0], at[1])); verdict != want {
			t.Error(at, verdict)
		}
	}
	more := must[api.Chain](t)(store.Add(c, link(2, 0, day(33))))
	if l := daysOf(t, more); !slices.Equal(l, []api.Span{span(10, 20), span(30, 32), span(15, 31), day(33)}) {
		t.Error(l)
	}
	if l, worth, e := store.Lend([]api.Loan{loan(1, 1, 5, 3), loan(1, 5, 9, 4), loan(2, 1, 9, 2)}); !slices.Equal(l, []int{1, 2}) || worth != 6 || e != api.OK {
		t.Error(l, worth, e)
	}
	if l := must[[]int](t)(store.Combination(s, 1)); !slices.Equal(l, []int{1, 0}) {
		t.Error(l)
	}
	if l, e := store.Combination(s, 2); len(l) > 0 || e != api.ErrMissing {
		t.Error(l, e)
	}
	plan, many := fewestOf(t, s)
	if l := must[[]int](t)(store.Plan(s)); !slices.Equal(l, []int{0, 1}) || !slices.Equal(plan, []int{0, 0, 1}) || many != 1 {
		t.Error(l, plan, many)
	}
	if gathering, guest, many, e := store.Repeats(s, []int{0, 0, 1}); gathering != 1 || guest != 1 || many != 1 || e != api.OK {
		t.Error(gathering, guest, many, e)
	}
	if text := must[string](t)(store.Write(c)); text != textC {
		t.Error(text)
	}
}

// P9.1

// badSpans are spans of days that are not valid, with their errors.
func badSpans() map[api.Span]api.Errno {
	return map[api.Span]api.Errno{
		span(-1, 5): api.ErrRange, span(5, -1): api.ErrRange, span(-1, -1): api.ErrRange, span(0, 100001): api.ErrRange, span(100001, 0): api.ErrRange, span(100001, 100001): api.ErrRange,
		span(math.MinInt, 0): api.ErrRange, span(0, math.MaxInt): api.ErrRange, span(math.MaxInt, math.MinInt): api.ErrRange, span(math.MinInt, math.MaxInt): api.ErrRange,
		span(1, 0): api.ErrOrder, span(100000, 0): api.ErrOrder, span(100000, 99999): api.ErrOrder, span(15, 14): api.ErrOrder,
	}
}

// badChains are chains that are not valid, with their first errors.
func badChains() map[string]struct {
	c api.Chain
	e api.Errno
} {
	type bad = struct {
		c api.Chain
		e api.Errno
	}
	of := func(e api.Errno, change func(c *api.Chain)) bad { return bad{chainWith(change), e} }
	many := make([]api.Link, 8)
	l := map[string]bad{
		"the Maker before Made":             of(api.ErrRange, func(c *api.Chain) { c.Maker, c.Made = 20, span(2, 1) }),
		"the Maker before too many links":   of(api.ErrRange, func(c *api.Chain) { c.Maker, c.Links = -1, many }),
		"Made before too many links":        of(api.ErrOrder, func(c *api.Chain) { c.Made, c.Links = span(2, 1), many }),
		"too many links":                    of(api.ErrFull, func(c *api.Chain) { c.Links = many }),
		"too many links that are valid":     of(api.ErrFull, func(c *api.Chain) { c.Links = slices.Repeat(c.Links, 4) }),
		"very many links":                   of(api.ErrFull, func(c *api.Chain) { c.Links = make([]api.Link, 1000000) }),
		"owners before From is To":          of(api.ErrRange, func(c *api.Chain) { c.Links[0] = link(20, 20, span(2, 1)) }),
		"From is To before Day":             of(api.ErrForm, func(c *api.Chain) { c.Links[0] = link(3, 3, span(-1, 0)) }),
		"From is To before Day's order":     of(api.ErrForm, func(c *api.Chain) { c.Links[1] = link(3, 3, span(2, 1)) }),
		"From is To":                        of(api.ErrForm, func(c *api.Chain) { c.Links[1] = link(0, 0, span(15, 35)) }),
		"a link before the next one's From": of(api.ErrOrder, func(c *api.Chain) { c.Links[0].Day, c.Links[1].From = span(40, 30), 20 }),
		"a link before the next one's To":   of(api.ErrForm, func(c *api.Chain) { c.Links[0].To, c.Links[1].To = 1, -1 }),
		"a link before the next one's Day":  of(api.ErrForm, func(c *api.Chain) { c.Links[0].To, c.Links[1].Day = 1, span(-1, 0) }),
		"no story before the next link":     of(api.ErrRange, func(c *api.Chain) { c.Links[0].From, c.Links[1].To = 7, 20 }),
		"no story":                          of(api.ErrClash, func(c *api.Chain) { c.Links[0].From = 7 }),
		"not from the Maker":                of(api.ErrClash, func(c *api.Chain) { c.Maker = 1 }),
		"from nobody who had it":            of(api.ErrClash, func(c *api.Chain) { c.Links[1].From = 5 }),
		"twice at once":                     of(api.ErrClash, func(c *api.Chain) { c.Links = []api.Link{link(0, 1, day(20)), link(0, 1, day(30))} }),
		"back on the same day":              of(api.ErrClash, func(c *api.Chain) { c.Links = []api.Link{link(0, 1, day(25)), link(1, 0, day(25))} }),
		"back on the day before":            of(api.ErrClash, func(c *api.Chain) { c.Links = []api.Link{link(0, 1, day(25)), link(1, 0, day(24))} }),
		"on the day on which it is made":    of(api.ErrClash, func(c *api.Chain) { c.Made, c.Links = day(25), []api.Link{link(0, 1, day(25))} }),
		"before it is made":                 of(api.ErrClash, func(c *api.Chain) { c.Made, c.Links = day(25), []api.Link{link(0, 1, span(0, 24))} }),
		"too early":                         of(api.ErrClash, func(c *api.Chain) { c.Links = append(c.Links, link(1, 0, span(5, 9))) }),
		"too many for the days": of(api.ErrClash, func(c *api.Chain) {
			c.Made, c.Links = day(0), []api.Link{link(0, 1, span(0, 2)), link(1, 0, span(0, 2)), link(0, 1, span(0, 2))}
		}),
		"a ring apart": of(api.ErrClash, func(c *api.Chain) {
			c.Links = append(c.Links, link(4, 5, span(0, 99)), link(5, 4, span(0, 99)))
		}),
	}
	for i, n := range []int{-1, 20, math.MinInt, math.MaxInt} {
		name := strconv.Itoa(i)
		l["the Maker "+name] = of(api.ErrRange, func(c *api.Chain) { c.Maker = n })
		for k := range 2 {
			name := name + " of the link " + strconv.Itoa(k)
			l["From "+name] = of(api.ErrRange, func(c *api.Chain) { c.Links[k].From = n })
			l["To "+name] = of(api.ErrRange, func(c *api.Chain) { c.Links[k].To = n })
		}
	}
	for s, e := range badSpans() {
		name := strconv.Itoa(s.Lo) + " " + strconv.Itoa(s.Hi)
		l["Made "+name] = of(e, func(c *api.Chain) { c.Made = s })
		l["Day 0 "+name] = of(e, func(c *api.Chain) { c.Links[0].Day = s })
		l["Day 1 "+name] = of(e, func(c *api.Chain) { c.Links[1].Day = s })
	}
	return l
}

// refused fails the test unless all functions that take a chain return this error of it, and nothing else, whatever else they are given.
func refused(t *testing.T, name string, c api.Chain, want api.Errno) {
	t.Helper()
	orders, a := store.Orders(c)
	made, links, b := store.Days(c)
	holders, d := store.Holders(c, -1)
	verdict, f := store.Owned(c, -1, -1)
	more, g := store.Add(c, api.Link{From: -1})
	text, h := store.Write(c)
	said := []api.Errno{store.CheckChain(c), a, b, d, f, g, h}
	if !slices.Equal(said, slices.Repeat([]api.Errno{want}, 7)) || len(orders)+len(links)+len(holders)+verdict+len(text) > 0 || made != (api.Span{}) || !isZero(more) {
		t.Error(name, said, want)
	}
}

func TestChainsThatAreNotValid(t *testing.T) {
	for name, c := range badChains() {
		refused(t, name, c.c, c.e)
	}
}

// ring returns a chain of so many links that goes from each owner to the next one, and from the last one to the first one; all days are free.
func ring(owners, links int) api.Chain {
	c := api.Chain{Made: span(0, 100000)}
	for i := range links {
		c.Links = append(c.Links, link(i%owners, (i+1)%owners, span(0, 100000)))
	}
	return c
}

func TestChainsThatAreValid(t *testing.T) {
	for i, c := range []api.Chain{
		chainC(), {}, {Maker: 19, Made: day(100000)}, {Made: span(0, 100000)}, ring(2, 7), ring(7, 7), ring(20, 7),
		{Maker: 19, Links: []api.Link{link(19, 0, day(1)), link(0, 19, day(100000))}},
		{Made: day(99999), Links: []api.Link{link(0, 1, span(0, 100000))}},
		chainWith(func(c *api.Chain) { c.Made = day(34) }), chainWith(func(c *api.Chain) { c.Links[0].Day = span(0, 16) }),
	} {
		if e := store.CheckChain(c); e != api.OK {
			t.Error(i, e)
		}
	}
}

func TestOrdersAndDays(t *testing.T) {
	free := span(0, 100000)
	for name, c := range map[string]struct {
		c      api.Chain
		orders [][]int
		days   []api.Span
	}{
		"C":        {chainC(), [][]int{{1, 0}}, []api.Span{span(10, 20), span(30, 40), span(15, 35)}},
		"no links": {api.Chain{Maker: 3, Made: span(4, 6)}, [][]int{{}}, []api.Span{span(4, 6)}},
		"one link": {api.Chain{Made: free, Links: []api.Link{link(0, 1, free)}}, [][]int{{0}}, []api.Span{span(0, 99999), span(1, 100000)}},
		"a ring":   {ring(3, 3), [][]int{{0, 1, 2}}, []api.Span{span(0, 99997), span(1, 99998), span(2, 99999), span(3, 100000)}},
		"to and fro": {ring(2, 4), [][]int{{0, 1, 2, 3}, {0, 3, 2, 1}, {2, 1, 0, 3}, {2, 3, 0, 1}}, []api.Span{
			span(0, 99996), span(1, 99999), span(2, 100000), span(1, 99999), span(2, 100000),
		}},
		// The days decide between two orders, or leave both.
		"the first one first":  {api.Chain{Links: []api.Link{link(0, 1, span(1, 5)), link(1, 0, day(4)), link(0, 1, span(5, 9))}}, [][]int{{0, 1, 2}}, []api.Span{day(0), span(1, 3), day(4), span(5, 9)}},
		"either one first":     {api.Chain{Links: []api.Link{link(0, 1, span(1, 5)), link(1, 0, day(4)), link(0, 1, span(3, 9))}}, [][]int{{0, 1, 2}, {2, 1, 0}}, []api.Span{day(0), span(1, 5), day(4), span(3, 9)}},
		"the second one first": {api.Chain{Links: []api.Link{link(0, 1, span(4, 5)), link(1, 0, day(4)), link(0, 1, span(3, 9))}}, [][]int{{2, 1, 0}}, []api.Span{day(0), day(5), day(4), day(3)}},
		"squeezed from both ends": {api.Chain{Made: span(0, 9), Links: []api.Link{link(0, 1, span(2, 5)), link(1, 2, span(4, 5)), link(2, 3, span(0, 6))}}, [][]int{{0, 1, 2}}, []api.Span{
			span(0, 3), span(2, 4), span(4, 5), span(5, 6),
		}},
		"one day each": {api.Chain{Made: span(0, 9), Links: []api.Link{link(0, 1, span(0, 9)), link(1, 2, span(0, 9)), link(2, 3, span(0, 3))}}, [][]int{{0, 1, 2}}, []api.Span{day(0), day(1), day(2), day(3)}},
		// Of two rings either one may be the first one, and both begin at the same owner.
		"two rings": {api.Chain{Links: []api.Link{link(2, 0, span(1, 9)), link(1, 0, span(1, 9)), link(0, 2, span(1, 9)), link(0, 1, span(1, 9))}}, [][]int{{2, 0, 3, 1}, {3, 1, 2, 0}}, []api.Span{
			day(0), span(2, 9), span(2, 9), span(1, 8), span(1, 8),
		}},
		"apart":          {api.Chain{Made: span(10, 20), Links: []api.Link{link(0, 1, span(30, 40)), link(1, 2, span(50, 60))}}, [][]int{{0, 1}}, []api.Span{span(10, 20), span(30, 40), span(50, 60)}},
		"the last day":   {api.Chain{Made: day(100000)}, [][]int{{}}, []api.Span{day(100000)}},
		"the last days":  {api.Chain{Made: day(99999), Links: []api.Link{link(0, 1, span(0, 100000))}}, [][]int{{0}}, []api.Span{day(99999), day(100000)}},
		"the first days": {api.Chain{Made: day(0), Links: []api.Link{link(0, 1, span(0, 1))}}, [][]int{{0}}, []api.Span{day(0), day(1)}},
	} {
		l := must[[][]int](t)(store.Orders(c.c))
		if days := daysOf(t, c.c); !equal(l, c.orders) || !slices.Equal(days, c.days) {
			t.Error(name, l, days)
		}
	}
	// From the one owner to the other one four times, and back three times, in any order.
	if l := must[[][]int](t)(store.Orders(ring(2, 7))); len(l) != 144 || !slices.IsSortedFunc(l, slices.Compare[[]int]) || !slices.Equal(l[0], upTo(7)) || !slices.Equal(l[143], []int{6, 5, 4, 3, 2, 1, 0}) {
		t.Error(l)
	}
}

// P9.2

func TestHolders(t *testing.T) {
	free := api.Chain{Maker: 19, Made: span(10, 20)}
	for name, c := range map[string]struct {
		c    api.Chain
		want map[int][]int
	}{
		"C":        {chainC(), map[int][]int{0: {-1}, 9: {-1}, 10: {-1, 0}, 14: {-1, 0}, 15: {-1, 0, 1}, 19: {-1, 0, 1}, 20: {0, 1}, 29: {0, 1}, 30: {0, 1, 2}, 34: {0, 1, 2}, 35: {1, 2}, 39: {1, 2}, 40: {2}, 100000: {2}}},
		"no links": {free, map[int][]int{0: {-1}, 9: {-1}, 10: {-1, 19}, 19: {-1, 19}, 20: {19}, 100000: {19}}},
		"one day":  {api.Chain{Made: day(5)}, map[int][]int{4: {-1}, 5: {0}, 6: {0}}},
		// The Maker has the thing from the day on which it is made, the next one from the day of the link.
		"day by day": {api.Chain{Made: day(5), Links: []api.Link{link(1, 2, day(7)), link(0, 1, day(6))}}, map[int][]int{4: {-1}, 5: {0}, 6: {1}, 7: {2}, 8: {2}}},
		// Somebody may have it for no day of a time in which others surely pass it on.
		"passed on": {api.Chain{Made: day(0), Links: []api.Link{link(0, 1, span(1, 3)), link(1, 2, span(2, 3))}}, map[int][]int{0: {0}, 1: {0, 1}, 2: {1, 2}, 3: {2}}},
		"back":      {api.Chain{Made: day(0), Links: []api.Link{link(0, 1, span(2, 3)), link(1, 0, span(4, 6))}}, map[int][]int{0: {0}, 1: {0}, 2: {0, 1}, 3: {1}, 4: {0, 1}, 5: {0, 1}, 6: {0}}},
		"two ways":  {api.Chain{Links: []api.Link{link(0, 1, span(1, 20)), link(1, 0, span(5, 10)), link(0, 1, span(3, 12))}}, map[int][]int{0: {0}, 1: {0, 1}, 2: {0, 1}, 4: {0, 1}, 12: {0, 1}, 19: {0, 1}, 20: {1}}},
		"two rings": {api.Chain{Links: []api.Link{link(0, 1, day(2)), link(1, 0, day(4)), link(0, 2, day(6)), link(2, 0, day(8))}}, map[int][]int{1: {0}, 2: {1}, 3: {1}, 4: {0}, 5: {0}, 6: {2}, 7: {2}, 8: {0}}},
	} {
		for day, want := range c.want {
			if l := must[[]int](t)(store.Holders(c.c, day)); !slices.Equal(l, want) {
				t.Error(name, day, l, want)
			}
			for owner := range api.MaxOwners {
				if verdict := must[int](t)(store.Owned(c.c, owner, day)); verdict != verdictOf(want, owner) {
					t.Error(name, day, owner, verdict)
				}
			}
		}
	}
}

func TestHoldersRefuse(t *testing.T) {
	for _, day := range []int{-1, 100001, math.MinInt, math.MaxInt} {
		if l, e := store.Holders(chainC(), day); len(l) > 0 || e != api.ErrRange {
			t.Error(day, l, e)
		}
		for _, owner := range []int{-1, 0, 19, 20} {
			if verdict, e := store.Owned(chainC(), owner, day); verdict != 0 || e != api.ErrRange {
				t.Error(owner, day, verdict, e)
			}
		}
	}
	// Nobody is no owner, also while nobody is the holder.
	for _, owner := range []int{-1, 20, math.MinInt, math.MaxInt} {
		for _, day := range []int{0, 32, 100000} {
			if verdict, e := store.Owned(chainC(), owner, day); verdict != 0 || e != api.ErrRange {
				t.Error(owner, day, verdict, e)
			}
		}
	}
}

func TestAdd(t *testing.T) {
	for i, c := range []struct {
		c api.Chain
		l api.Link
		e api.Errno
	}{
		{chainC(), link(2, 0, day(33)), api.OK}, {chainC(), link(2, 19, day(100000)), api.OK}, {api.Chain{}, link(0, 1, day(1)), api.OK}, {ring(2, 6), link(0, 1, span(0, 100000)), api.OK},
		{chainC(), link(1, 0, span(5, 9)), api.ErrClash}, {chainC(), link(2, 0, day(30)), api.ErrClash}, {chainC(), link(5, 6, day(50)), api.ErrClash}, {api.Chain{}, link(0, 1, day(0)), api.ErrClash},
		{chainC(), link(20, 0, day(33)), api.ErrRange}, {chainC(), link(2, -1, day(33)), api.ErrRange}, {chainC(), link(2, 2, day(33)), api.ErrForm}, {chainC(), link(2, 0, span(34, 33)), api.ErrOrder}, {chainC(), link(2, 0, day(100001)), api.ErrRange},
		{ring(2, 7), link(1, 0, span(0, 100000)), api.ErrFull}, {ring(2, 7), link(-1, -1, span(2, 1)), api.ErrFull},
	} {
		want := api.Chain{}
		if c.e == api.OK {
			want = copied(c.c)
			want.Links = append(want.Links, c.l)
		}
		if got, e := store.Add(c.c, c.l); e != c.e || !same(got, want) {
			t.Error(i, got, e)
		}
	}
}

// P9.3

func TestLend(t *testing.T) {
	all := slices.Repeat([]api.Loan{loan(3, 4, 9, 7)}, 12)
	apart := slices.Clone(all)
	for i := range apart {
		apart[i] = loan(i%2, 100*i, 100*i+199, 1000-i)
	}
	for name, c := range map[string]struct {
		l     []api.Loan
		want  []int
		worth int
	}{
		"none":                     {nil, nil, 0},
		"one":                      {[]api.Loan{loan(0, 0, 0, 1)}, []int{0}, 1},
		"worth nothing":            {[]api.Loan{loan(0, 0, 0, 0)}, nil, 0},
		"all worth nothing":        {make([]api.Loan, 12), nil, 0},
		"nothing beside it":        {[]api.Loan{loan(1, 1, 1, 0), loan(2, 1, 1, 7), loan(3, 1, 1, 0)}, []int{1}, 7},
		"the greatest numbers":     {[]api.Loan{loan(49, 100000, 100000, 1000), loan(49, 0, 99999, 1000)}, []int{0, 1}, 2000},
		"equal loans":              {all, []int{0}, 7},
		"two things in turn":       {apart, upTo(12), 11934},
		"a day in common":          {[]api.Loan{loan(1, 1, 5, 3), loan(1, 5, 9, 4)}, []int{1}, 4},
		"the other way round":      {[]api.Loan{loan(1, 5, 9, 4), loan(1, 1, 5, 3)}, []int{0}, 4},
		"one after the other":      {[]api.Loan{loan(1, 1, 5, 3), loan(1, 6, 9, 4)}, []int{0, 1}, 7},
		"one within the other":     {[]api.Loan{loan(1, 1, 9, 3), loan(1, 4, 5, 4)}, []int{1}, 4},
		"of two things":            {[]api.Loan{loan(1, 1, 5, 3), loan(2, 5, 9, 4)}, []int{0, 1}, 7},
		"fewer loans":              {[]api.Loan{loan(1, 1, 4, 2), loan(1, 5, 9, 3), loan(1, 1, 9, 5)}, []int{2}, 5},
		"more loans":               {[]api.Loan{loan(1, 1, 9, 5), loan(1, 1, 4, 3), loan(1, 5, 9, 3)}, []int{1, 2}, 6},
		"the first of equal ones":  {[]api.Loan{loan(1, 1, 1, 0), loan(1, 1, 1, 7), loan(1, 1, 1, 7)}, []int{1}, 7},
		"the first list":           {[]api.Loan{loan(1, 1, 4, 2), loan(2, 1, 4, 2), loan(1, 4, 4, 2), loan(2, 4, 4, 2)}, []int{0, 1}, 4},
		"the first, then the last": {[]api.Loan{loan(1, 1, 1, 1), loan(2, 1, 9, 4), loan(2, 1, 9, 5), loan(1, 1, 1, 2), loan(1, 1, 1, 2)}, []int{2, 3}, 7},
		// The one that is worth most stands in the way of two that are worth more.
		"not the greatest one": {[]api.Loan{loan(1, 3, 3, 1), loan(1, 1, 2, 1), loan(1, 4, 4, 1), loan(1, 2, 4, 2)}, []int{0, 1, 2}, 3},
	} {
		if l, worth, e := store.Lend(c.l); !slices.Equal(l, c.want) || worth != c.worth || e != api.OK {
			t.Error(name, l, worth, e)
		}
	}
}

func TestLendRefuses(t *testing.T) {
	type bad = struct {
		l []api.Loan
		e api.Errno
	}
	of := func(e api.Errno, l ...api.Loan) bad { return bad{l, e} }
	good := loan(1, 1, 2, 3)
	l := map[string]bad{
		"13":                       of(api.ErrFull, slices.Repeat([]api.Loan{good}, 13)...),
		"13 that are none":         of(api.ErrFull, slices.Repeat([]api.Loan{loan(-1, 2, 1, 0)}, 13)...),
		"very many":                of(api.ErrFull, make([]api.Loan, 1000000)...),
		"From behind To":           of(api.ErrOrder, loan(0, 2, 1, 0)),
		"range before order":       of(api.ErrRange, loan(0, 2, 1, 1001)),
		"order before the next":    of(api.ErrOrder, loan(0, 2, 1, 0), loan(-1, 0, 0, 0)),
		"range before the next":    of(api.ErrRange, loan(-1, 0, 0, 0), loan(0, 2, 1, 0)),
		"behind others":            of(api.ErrOrder, good, good, loan(0, 100000, 0, 0)),
		"the last of twelve loans": of(api.ErrRange, append(slices.Repeat([]api.Loan{good}, 11), loan(50, 0, 0, 0))...),
	}
	for i, most := range []int{49, 100000, 100000, 1000} {
		numbers := func(l *api.Loan) *int { return []*int{&l.Thing, &l.From, &l.To, &l.Worth}[i] }
		for _, n := range []int{-1, most + 1, math.MinInt, math.MaxInt} {
			one := loan(0, 0, 100000, 0)
			*numbers(&one) = n
			l["number "+strconv.Itoa(i)+" "+strconv.Itoa(n)] = of(api.ErrRange, one)
			l["behind "+strconv.Itoa(i)+" "+strconv.Itoa(n)] = of(api.ErrRange, good, one)
		}
		for _, n := range []int{0, 1, most - 1, most} {
			one := loan(0, 0, 100000, 0)
			*numbers(&one) = n
			if _, _, e := store.Lend([]api.Loan{one}); e != api.OK {
				t.Error(one, e)
			}
		}
	}
	for name, c := range l {
		if list, worth, e := store.Lend(c.l); len(list)+worth > 0 || e != c.e {
			t.Error(name, list, worth, e, c.e)
		}
	}
}

// P9.4

// badSeasons are seasons that are not valid, with their first errors.
func badSeasons() map[string]struct {
	s api.Season
	e api.Errno
} {
	type bad = struct {
		s api.Season
		e api.Errno
	}
	of := func(e api.Errno, change func(s *api.Season)) bad { return bad{seasonWith(change), e} }
	many := make([][]int, 10)
	l := map[string]bad{
		"nothing":                          {api.Season{}, api.ErrShort},
		"no sorts before gatherings":       of(api.ErrShort, func(s *api.Season) { s.Sorts, s.Gatherings = nil, many }),
		"five sorts":                       of(api.ErrFull, func(s *api.Season) { s.Sorts = []int{1, 1, 1, 1, 1} }),
		"five sorts before their things":   of(api.ErrFull, func(s *api.Season) { s.Sorts = []int{7, 0, 1, 1, 1} }),
		"very many sorts":                  of(api.ErrFull, func(s *api.Season) { s.Sorts = make([]int, 1000000) }),
		"things before many gatherings":    of(api.ErrRange, func(s *api.Season) { s.Sorts, s.Gatherings = []int{2, 7}, many }),
		"things before gatherings":         of(api.ErrRange, func(s *api.Season) { s.Sorts[1], s.Gatherings[0] = 0, nil }),
		"ten gatherings":                   of(api.ErrFull, func(s *api.Season) { s.Gatherings = many }),
		"ten gatherings that are valid":    of(api.ErrFull, func(s *api.Season) { s.Gatherings = slices.Repeat([][]int{{0}}, 10) }),
		"very many gatherings":             of(api.ErrFull, func(s *api.Season) { s.Gatherings = make([][]int, 1000000) }),
		"nobody comes":                     of(api.ErrShort, func(s *api.Season) { s.Gatherings[0] = []int{} }),
		"nobody comes to the last one":     of(api.ErrShort, func(s *api.Season) { s.Gatherings[2] = nil }),
		"somebody twice":                   of(api.ErrExists, func(s *api.Season) { s.Gatherings[1] = []int{3, 4, 3} }),
		"twice before no guest":            of(api.ErrExists, func(s *api.Season) { s.Gatherings[1] = []int{3, 3, 12} }),
		"no guest before twice":            of(api.ErrRange, func(s *api.Season) { s.Gatherings[1] = []int{3, 12, 3} }),
		"no guest twice":                   of(api.ErrRange, func(s *api.Season) { s.Gatherings[1] = []int{-1, -1} }),
		"more guests than there are":       of(api.ErrExists, func(s *api.Season) { s.Gatherings[0] = append(upTo(12), 11) }),
		"very many guests":                 of(api.ErrExists, func(s *api.Season) { s.Gatherings[0] = make([]int, 1000000) }),
		"very many numbers":                of(api.ErrRange, func(s *api.Season) { s.Gatherings[0] = upTo(1000000) }),
		"nobody before no guest":           of(api.ErrShort, func(s *api.Season) { s.Gatherings[0], s.Gatherings[1] = nil, []int{12} }),
		"no guest before nobody":           of(api.ErrRange, func(s *api.Season) { s.Gatherings[0], s.Gatherings[1] = []int{12}, nil }),
		"twice before nobody":              of(api.ErrExists, func(s *api.Season) { s.Gatherings[0], s.Gatherings[1] = []int{1, 1}, nil }),
		"twice before no guest, elsewhere": of(api.ErrExists, func(s *api.Season) { s.Gatherings[0], s.Gatherings[1] = []int{1, 1}, []int{12} }),
	}
	for _, n := range []int{-1, 0, 7, math.MinInt, math.MaxInt} {
		l["things of the first sort "+strconv.Itoa(n)] = of(api.ErrRange, func(s *api.Season) { s.Sorts[0] = n })
		l["things of the last sort "+strconv.Itoa(n)] = of(api.ErrRange, func(s *api.Season) { s.Sorts = []int{6, 6, 6, n} })
	}
	for _, n := range []int{-1, 12, math.MinInt, math.MaxInt} {
		l["the first guest "+strconv.Itoa(n)] = of(api.ErrRange, func(s *api.Season) { s.Gatherings[0][0] = n })
		l["the last guest "+strconv.Itoa(n)] = of(api.ErrRange, func(s *api.Season) { s.Gatherings[2][1] = n })
	}
	return l
}

func TestSeasonsThatAreNotValid(t *testing.T) {
	for name, c := range badSeasons() {
		combination, a := store.Combination(c.s, -1)
		gathering, guest, many, b := store.Repeats(c.s, make([]int, 11))
		plan, d := store.Plan(c.s)
		fewest, least, f := store.Fewest(c.s)
		said := []api.Errno{store.CheckSeason(c.s), a, b, d, f}
		if !slices.Equal(said, slices.Repeat([]api.Errno{c.e}, 5)) || len(combination)+len(plan)+len(fewest) > 0 || gathering != 0 || guest != 0 || many != 0 || least != 0 {
			t.Error(name, said, c.e, gathering, guest)
		}
	}
}

func TestSeasonsThatAreValid(t *testing.T) {
	for i, s := range []api.Season{
		seasonS(), season(1), season(6), {Sorts: []int{6, 1, 6, 1}}, season(1, slices.Repeat([][]int{upTo(12)}, 9)...), season(2, []int{11}, []int{0, 11}, []int{11, 10, 9}),
	} {
		if e := store.CheckSeason(s); e != api.OK {
			t.Error(i, e)
		}
	}
}

func TestCombinations(t *testing.T) {
	for _, sorts := range [][]int{{1}, {6}, {2, 1}, {1, 2}, {2, 3, 2}, {3, 1, 2, 4}, {6, 6, 6, 6}, {1, 1, 1, 1}} {
		s := api.Season{Sorts: sorts}
		all := combinationsOf(s)
		for number, want := range all {
			if l, e := store.Combination(s, number); !slices.Equal(l, want) || e != api.OK {
				t.Error(s, number, l, e)
			}
		}
		for _, number := range []int{-1, len(all), len(all) + 1, math.MinInt, math.MaxInt} {
			if l, e := store.Combination(s, number); len(l) > 0 || e != api.ErrMissing {
				t.Error(s, number, l, e)
			}
		}
	}
	// The last sort changes soonest.
	if l := must[[]int](t)(store.Combination(api.Season{Sorts: []int{6, 5, 4, 3}}, 60+2*12+3*3+1)); !slices.Equal(l, []int{1, 2, 3, 1}) {
		t.Error(l)
	}
}

func TestRepeats(t *testing.T) {
	often := season(3, []int{5, 2}, []int{5, 1}, []int{2, 5}, []int{2, 1})
	full := season(2, slices.Repeat([][]int{upTo(12)}, 9)...)
	// The guests come in another order than that of their numbers.
	turned := season(2, []int{9, 3, 7}, []int{9}, []int{7, 3, 9})
	for name, c := range map[string]struct {
		s                      api.Season
		plan                   []int
		gathering, guest, many int
	}{
		"the example":        {seasonS(), []int{0, 0, 1}, 1, 1, 1},
		"the third":          {seasonS(), []int{0, 1, 0}, 2, 0, 1},
		"all the same":       {seasonS(), []int{0, 0, 0}, 1, 1, 3},
		"no repeat":          {seasonS(), []int{1, 0}, -1, -1, 0},
		"one gathering":      {seasonS(), []int{1}, -1, -1, 0},
		"no gathering":       {seasonS(), nil, -1, -1, 0},
		"an empty season":    {season(1), nil, -1, -1, 0},
		"two guests at once": {often, []int{0, 1, 0, 1}, 2, 2, 3},
		"the last one":       {often, []int{0, 1, 2, 0}, 3, 2, 1},
		"often":              {often, []int{2, 2, 2, 2}, 1, 5, 5},
		"an earlier one":     {often, []int{0, 1, 2, 1}, 3, 1, 1},
		"all of all":         {full, make([]int, 9), 1, 0, 96},
		"in turn":            {full, []int{0, 1, 0, 1, 0, 1, 0, 1, 0}, 2, 0, 84},
		"the least number":   {turned, []int{0, 1, 0}, 2, 3, 3},
		"not the first one":  {turned, []int{1, 1, 1}, 1, 9, 4},
		"who was not there":  {turned, []int{0, 1, 1}, 2, 9, 1},
	} {
		gathering, guest, many, e := store.Repeats(c.s, c.plan)
		if gathering != c.gathering || guest != c.guest || many != c.many || e != api.OK {
			t.Error(name, gathering, guest, many, e)
		}
	}
}

func TestRepeatsRefuse(t *testing.T) {
	for i, c := range []struct {
		s    api.Season
		plan []int
		e    api.Errno
	}{
		{seasonS(), []int{0, 0, 0, 0}, api.ErrFull}, {seasonS(), []int{9, 0, 0, 0}, api.ErrFull}, {season(1), []int{0}, api.ErrFull}, {seasonS(), make([]int, 1000000), api.ErrFull},
		{seasonS(), []int{2}, api.ErrMissing}, {seasonS(), []int{-1}, api.ErrMissing}, {seasonS(), []int{0, 0, 2}, api.ErrMissing}, {seasonS(), []int{0, math.MaxInt, 0}, api.ErrMissing}, {seasonS(), []int{math.MinInt, 0}, api.ErrMissing},
	} {
		gathering, guest, many, e := store.Repeats(c.s, c.plan)
		if gathering != 0 || guest != 0 || many != 0 || e != c.e {
			t.Error(i, gathering, guest, many, e)
		}
	}
}

// P9.5

func TestPlanAndFewest(t *testing.T) {
	every := slices.Repeat([][]int{upTo(12)}, 9)
	for name, c := range map[string]struct {
		s            api.Season
		plan, fewest []int
		many         int
	}{
		"S":                {seasonS(), []int{0, 1}, []int{0, 0, 1}, 1},
		"no gatherings":    {season(2), nil, nil, 0},
		"one gathering":    {season(1, []int{4}), []int{0}, []int{0}, 0},
		"three things":     {season(3, seasonS().Gatherings...), upTo(3), upTo(3), 0},
		"one thing":        {season(1, []int{0}, []int{1}, []int{0}, []int{2}), []int{0, 0}, make([]int, 4), 1},
		"others":           {season(2, []int{0}, []int{1}, []int{0, 1}, []int{2}), []int{0, 0, 1, 0}, []int{0, 0, 1, 0}, 0},
		"all, one thing":   {season(1, every...), []int{0}, make([]int, 9), 96},
		"all, six things":  {season(6, every...), upTo(6), []int{0, 0, 0, 0, 1, 2, 3, 4, 5}, 36},
		"all, two sorts":   {api.Season{Sorts: []int{3, 3}, Gatherings: every}, upTo(9), upTo(9), 0},
		"more than enough": {api.Season{Sorts: []int{6, 6, 6, 6}, Gatherings: every}, upTo(9), upTo(9), 0},
		// If the first two gatherings were alike, as nothing is in the way of that yet, the fourth one would have a repeat.
		"not greedily": {season(2, []int{0}, []int{1}, []int{0, 2}, []int{1, 2}), []int{0, 1, 1, 0}, []int{0, 1, 1, 0}, 0},
		// One repeat at the second gathering saves two at the last one.
		"an early repeat": {season(2, []int{0, 1, 2}, []int{0, 3}, []int{0, 1, 2, 3}), []int{0, 1}, []int{0, 0, 1}, 1},
		// Four repeats are the fewest, and 0 1 0 0 has as many.
		"the first plan": {season(2, []int{0, 1}, []int{0, 1, 2, 3}, []int{0, 2, 3}, []int{1, 2, 3}), []int{0, 1}, []int{0, 0, 1, 1}, 4},
		"twice the same": {season(1, []int{0}, []int{0}), []int{0}, []int{0, 0}, 1},
	} {
		l := must[[]int](t)(store.Plan(c.s))
		if plan, many := fewestOf(t, c.s); !slices.Equal(l, c.plan) || !slices.Equal(plan, c.fewest) || many != c.many {
			t.Error(name, l, plan, many)
		}
	}
}

// P9.6

// textC is the box of C.
const textC = "made 0 10 20\nlink 1 2 30 40\nlink 0 1 15 35\nend 2\n"

func TestBoxes(t *testing.T) {
	for i, c := range []struct {
		c    api.Chain
		text string
	}{
		{chainC(), textC}, {api.Chain{}, "made 0 0 0\nend 0\n"}, {api.Chain{Maker: 19, Made: span(0, 100000)}, "made 19 0 100000\nend 0\n"},
		{api.Chain{Maker: 19, Made: day(99999), Links: []api.Link{link(19, 0, day(100000))}}, "made 19 99999 99999\nlink 19 0 100000 100000\nend 1\n"},
		{ring(2, 7), "made 0 0 100000\n" + strings.Repeat("link 0 1 0 100000\nlink 1 0 0 100000\n", 3) + "link 0 1 0 100000\nend 7\n"},
	} {
		if text, e := store.Write(c.c); text != c.text || e != api.OK {
			t.Errorf("%v %q %v", i, text, e)
		}
		if got, row, e := store.Read(c.text); !same(got, c.c) || row != 0 || e != api.OK {
			t.Error(i, got, row, e)
		}
	}
}

// madeRow is the first row of a box, linkRow a row of a link behind it, endRow the last row of a box of one link.
const madeRow, linkRow, endRow = "made 0 10 20\n", "link 0 1 15 35\n", "end 1\n"

// wrongBoxes are texts that are no boxes, each with its row and its error.
func wrongBoxes() map[string]struct {
	row int
	e   api.Errno
} {
	type wrong = struct {
		row int
		e   api.Errno
	}
	l := map[string]wrong{
		"":                                   {1, api.ErrForm},
		madeRow:                              {2, api.ErrForm},
		madeRow + linkRow:                    {3, api.ErrForm},
		"made 0 10 20":                       {1, api.ErrForm},
		"end 0\n":                            {1, api.ErrForm},
		"end 0":                              {1, api.ErrForm},
		"end 0\n" + madeRow:                  {1, api.ErrForm},
		linkRow + endRow:                     {1, api.ErrForm},
		linkRow + madeRow + endRow:           {1, api.ErrForm},
		madeRow + madeRow + "end 0\n":        {2, api.ErrForm},
		madeRow + linkRow + madeRow + endRow: {3, api.ErrForm},
		madeRow + "end 0":                    {2, api.ErrForm},
		madeRow + "link 0 1 15 35":           {2, api.ErrForm},
		madeRow + "\n" + "end 0\n":           {2, api.ErrForm},
		"\n" + madeRow + "end 0\n":           {1, api.ErrForm},
		madeRow + "end 0\n\n":                {3, api.ErrForm},
		madeRow + "end 0\n ":                 {3, api.ErrForm},
		madeRow + "end 0\nx":                 {3, api.ErrForm},
		madeRow + "end 0\nend 0\n":           {3, api.ErrForm},
		madeRow + "end 0\n" + linkRow:        {3, api.ErrForm},
		madeRow + "end 0\n" + madeRow:        {3, api.ErrForm},
		// How many links there are is looked at behind all rows, and before the chain itself.
		madeRow + "end 1\n":                                  {2, api.ErrForm},
		madeRow + linkRow + "end 0\n":                        {3, api.ErrForm},
		madeRow + linkRow + "end 2\n":                        {3, api.ErrForm},
		madeRow + linkRow + "end 9999999\n":                  {3, api.ErrForm},
		madeRow + "end 1\nx\n":                               {3, api.ErrForm},
		madeRow + linkRow + "end 2\n\n":                      {4, api.ErrForm},
		"made 20 2 1\nend 1\n":                               {2, api.ErrForm},
		madeRow + "link 0 0 2 1\nend 2\n":                    {3, api.ErrForm},
		madeRow + strings.Repeat(linkRow, 8) + "end 7\n":     {10, api.ErrForm},
		madeRow + strings.Repeat(linkRow, 8) + "end 8\n":     {0, api.ErrFull},
		madeRow + strings.Repeat(linkRow, 100) + "end 100\n": {0, api.ErrFull},
		"made 20 10 20\nend 0\n":                             {0, api.ErrRange},
		"made 0 10 100001\nend 0\n":                          {0, api.ErrRange},
		"made 0 10 9999999\nend 0\n":                         {0, api.ErrRange},
		"made 9999999 10 20\nend 0\n":                        {0, api.ErrRange},
		"made 0 20 10\nend 0\n":                              {0, api.ErrOrder},
		madeRow + "link 0 20 15 35\nend 1\n":                 {0, api.ErrRange},
		madeRow + "link 0 0 15 35\nend 1\n":                  {0, api.ErrForm},
		madeRow + "link 0 1 35 15\nend 1\n":                  {0, api.ErrOrder},
		madeRow + "link 0 1 0 9999999\nend 1\n":              {0, api.ErrRange},
		madeRow + "link 1 0 15 35\nend 1\n":                  {0, api.ErrClash},
		madeRow + "link 0 1 0 10\nend 1\n":                   {0, api.ErrClash},
		strings.Repeat("x", 2000):                            {1, api.ErrForm},
		strings.Repeat("x", 2001):                            {0, api.ErrLong},
		strings.Repeat("\n", 2000):                           {1, api.ErrForm},
		strings.Repeat("\n", 2001):                           {0, api.ErrLong},
		madeRow + strings.Repeat(linkRow, 200) + "end 200\n": {0, api.ErrLong},
	}
	for _, row := range []string{"made", "made ", "made 0", "made 0 10", "made 0 10 20 30", "made  0 10 20", "made 0 10  20", " made 0 10 20", "made 0 10 20 ", "Made 0 10 20", "makes 0 10 20", "0 10 20", "made0 10 20", "made\t0 10 20", "made 0 10 20\r", "made 00 10 20", "made 0 010 20", "made 0 10 +20", "made 0 -1 20", "made 0 10 10000000", "made 0 10 0000020", "made x 10 20", "made - 10 20", "made 0 10 ٣", "", " ", "end", "link", "\x00", "\xff"} {
		l[row+"\nend 0\n"] = wrong{1, api.ErrForm}
		// Such a row is none of the others, either.
		l[madeRow+row+"\nend 1\n"] = wrong{2, api.ErrForm}
	}
	for _, row := range []string{"link", "link ", "link 0 1 15", "link 0 1 15 35 36", "link  0 1 15 35", "link 0 1 15  35", " link 0 1 15 35", "link 0 1 15 35 ", "Link 0 1 15 35", "links 0 1 15 35", "0 1 15 35", "link\t0 1 15 35", "link 0 1 15 35\r", "link 00 1 15 35", "link 0 01 15 35", "link 0 1 15 -35", "link +0 1 15 35", "link 0 1 15 10000000", "link a b 15 35", "link 0 1 - 35", "made 0 1 15 35", "link 0 1 15 35 end"} {
		l[madeRow+row+"\nend 1\n"] = wrong{2, api.ErrForm}
	}
	for _, row := range []string{"end", "end ", "end 00", "end 01", "end -1", "end +1", "end -", "end  1", "end 1 ", " end 1", "end 1 1", "end x", "end 10000000", "End 1", "ends 1", "end1", "end 1\r", "end\t1"} {
		l[madeRow+linkRow+row+"\n"] = wrong{3, api.ErrForm}
	}
	return l
}

func TestTextsThatAreNoBoxes(t *testing.T) {
	for text, c := range wrongBoxes() {
		if got, row, e := store.Read(text); !isZero(got) || row != c.row || e != c.e {
			t.Errorf("%.60q: %v %v %v, want %v %v", text, got, row, e, c.row, c.e)
		}
	}
}

// A text may be as long as the longest one.
func TestTextsOfAnyLength(t *testing.T) {
	for length := len(textC); length <= api.MaxDeedText+1; length++ {
		text := textC + strings.Repeat("x", length-len(textC))
		row, want := 5, api.ErrForm
		switch {
		case length > api.MaxDeedText:
			row, want = 0, api.ErrLong
		case length == len(textC):
			row, want = 0, api.OK
		}
		if _, got, e := store.Read(text); got != row || e != want {
			t.Fatal(length, got, e)
		}
	}
}

// read is what Read has to return for at most 2,000 bytes, by patterns for the rows.
func read(text string) (c api.Chain, row int, e api.Errno) {
	const number = ` (0|[1-9][0-9]{0,6})`
	made := regexp.MustCompile(`\Amade` + strings.Repeat(number, 3) + `\n\z`)
	passed := regexp.MustCompile(`\Alink` + strings.Repeat(number, 4) + `\n\z`)
	end := regexp.MustCompile(`\Aend` + number + `\n\z`)
	ended, links := 0, 0
	for i, line := range strings.SplitAfter(text, "\n") {
		var n [5]int
		fits := func(pattern *regexp.Regexp) bool {
			m := pattern.FindStringSubmatch(line)
			for k := 1; k < len(m); k++ {
				n[k], _ = strconv.Atoi(m[k])
			}
			return m != nil
		}
		switch {
		case i == 0 && fits(made):
			c.Maker, c.Made = n[1], span(n[2], n[3])
		case i > 0 && ended == 0 && fits(passed):
			c.Links = append(c.Links, link(n[1], n[2], span(n[3], n[4])))
		case i > 0 && ended == 0 && fits(end):
			ended, links = i+1, n[1]
		case ended > 0 && line == "":
			// Nothing stands behind the row "end".
		default:
			return api.Chain{}, i + 1, api.ErrForm
		}
	}
	if links != len(c.Links) {
		return api.Chain{}, ended, api.ErrForm
	}
	if e := store.CheckChain(c); e != api.OK {
		return api.Chain{}, 0, e
	}
	return c, 0, api.OK
}

// edits returns all texts that come of one by a change, an insertion or a deletion of one byte, or of one row.
func edits(text string) []string {
	var l []string
	for i := range len(text) + 1 {
		for _, b := range []string{" ", "\n", "-", "0", "1", "2", "9", "e", "\x00", "\xff"} {
			l = append(l, text[:i]+b+text[i:])
			if i < len(text) {
				l = append(l, text[:i]+b+text[i+1:])
			}
		}
		if i < len(text) {
			l = append(l, text[:i]+text[i+1:])
		}
		l = append(l, text[:i], text[i:])
	}
	whole := strings.SplitAfter(text, "\n")
	for i := range whole {
		l = append(l, strings.Join(slices.Delete(slices.Clone(whole), i, i+1), ""))
		for k := range whole {
			l = append(l, strings.Join(slices.Insert(slices.Clone(whole), i, whole[k]), ""))
		}
	}
	return l
}

// Texts that are nearly boxes are read, or refused, as the chapter says.
func TestTextsThatAreNearlyBoxes(t *testing.T) {
	said := map[api.Errno]int{}
	for _, text := range []string{textC, "made 0 0 0\nend 0\n", madeRow + linkRow + endRow, "made 19 9 10\nlink 1 19 11 12\nlink 19 1 10 11\nend 2\n", "made 1 100000 100000\nend 0\n"} {
		for _, edited := range edits(text) {
			c, row, e := store.Read(edited)
			want, wantRow, wantE := read(edited)
			if !same(c, want) || row != wantRow || e != wantE {
				t.Fatalf("%q: %v %v %v, want %v %v %v", edited, c, row, e, want, wantRow, wantE)
			}
			said[e]++
		}
	}
	for _, e := range []api.Errno{api.OK, api.ErrForm, api.ErrClash, api.ErrRange, api.ErrOrder} {
		if said[e] < 5 {
			t.Error(said)
		}
	}
}
