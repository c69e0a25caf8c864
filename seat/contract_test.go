package seat_test

import (
	"math"
	"regexp"
	"slices"
	"strconv"
	"strings"
	"testing"

	"aloeswood/api"
	"aloeswood/seat"
)

// The chapter's examples.
func TestExamples(t *testing.T) {
	const sure, never, open = api.Sure, api.Never, api.Open
	p := partyP()
	two := partyWith(func(p *api.Party) { p.Guests[1].Name = "ann" })
	seventh := partyWith(func(p *api.Party) { p.Rules[0].Kind = 7 })
	other := partyWith(func(p *api.Party) { p.Rules[1].B = 1 })
	if said := []api.Errno{seat.Check(p), seat.Check(two), seat.Check(seventh), seat.Check(other)}; !slices.Equal(said, []api.Errno{api.OK, api.ErrExists, api.ErrKind, api.ErrForm}) {
		t.Error(said)
	}
	for _, c := range []struct {
		order, broken []int
		price         int
		e             api.Errno
	}{{[]int{0, 2, 1}, []int{1}, 0, api.OK}, {[]int{1, 0, 2}, []int{0}, 10, api.OK}, {[]int{0, 1}, nil, 0, api.ErrForm}} {
		if broken, price, e := seat.Price(p, c.order); !slices.Equal(broken, c.broken) || price != c.price || e != c.e {
			t.Error(c, broken, price, e)
		}
	}
	if order, price, e := seat.Best(p); must[int](t)(seat.Count(p)) != 2 || !slices.Equal(order, []int{1, 0, 2}) || price != 10 || e != api.OK {
		t.Error(order, price, e)
	}
	if l := must[[][]int](t)(seat.Sure(p)); !equal(l, [][]int{{never, never, open}, {sure, never, sure}, {open, never, never}}) {
		t.Error(l)
	}
	if l, e := seat.Conflict(p); len(l) > 0 || e != api.ErrMissing {
		t.Error(l, e)
	}
	last := partyWith(func(p *api.Party) { p.Rules = append(p.Rules, keep(api.RuleLast, 1, 0)) })
	if l := must[[]int](t)(seat.Conflict(last)); !slices.Equal(l, []int{1, 3}) {
		t.Error(l)
	}
	feud, with := api.Bond{Kind: api.BondFeud, A: 0, B: 1}, api.Bond{Kind: api.BondWith, A: 2, B: 1}
	if l, honour, e := seat.Invite(p.Guests, []api.Bond{feud}, 3); !slices.Equal(l, []int{0, 2}) || honour != 10 || e != api.OK {
		t.Error(l, honour, e)
	}
	if l, honour, e := seat.Invite(p.Guests, []api.Bond{feud, with}, 3); !slices.Equal(l, []int{1, 2}) || honour != 10 || e != api.OK {
		t.Error(l, honour, e)
	}
	g := api.Guest{Name: "eve", Never: 1, Maybe: 2}
	for parts, want := range map[int]int{3: never, 6: open, 4: sure} {
		if verdict := must[int](t)(seat.Eats(g, api.Dish{Parts: parts})); verdict != want {
			t.Error(parts, verdict)
		}
	}
	guests, dishes := []api.Guest{{Name: "ann"}, {Name: "bob", Never: 1}}, []api.Dish{{Parts: 1, Cost: 5}, {Parts: 2, Cost: 9}}
	for need, want := range [][2]int{{0, 5}, {1, 9}} {
		if menu, cost, e := seat.Menu(guests, dishes, 1, need); !slices.Equal(menu, want[:1]) || cost != want[1] || e != api.OK {
			t.Error(need, menu, cost, e)
		}
	}
	rows := strings.Split(must[string](t)(seat.Write(p)), "\n")
	if len(rows) != 7 || rows[0] != "guest ann 3 5 0 0" || rows[5] != "rule 2 0 2 4" || rows[6] != "" {
		t.Error(rows)
	}
}

// P8.1

// badNames are words that are no names of guests.
func badNames() []string {
	return []string{"", "abcdefghi", strings.Repeat("a", 100000), "A", "Ann", "anN", "a1", "1", "a b", " a", "a ", "-", "a-b", "a_", "`", "{", "a\n", "\x00", "\xff", "é", "ａ"}
}

// numbers returns the numbers of a guest, greatest their greatest values.
func numbers(g *api.Guest) []*int { return []*int{&g.Rank, &g.Honour, &g.Never, &g.Maybe} }

func greatest() []int { return []int{9, 1000, 255, 255} }

// badGuests are guests that are not valid, each of them alone, with their errors.
func badGuests() []struct {
	g api.Guest
	e api.Errno
} {
	type bad = struct {
		g api.Guest
		e api.Errno
	}
	l := []bad{{api.Guest{}, api.ErrForm}}
	for _, name := range badNames() {
		// What is wrong with the name comes first.
		l = append(l, bad{api.Guest{Name: name}, api.ErrForm}, bad{api.Guest{Name: name, Rank: 10, Honour: -1, Never: 256, Maybe: -1}, api.ErrForm})
	}
	for i, most := range greatest() {
		for _, n := range []int{-1, most + 1, math.MinInt, math.MaxInt} {
			g := api.Guest{Name: "eve"}
			*numbers(&g)[i] = n
			l = append(l, bad{g, api.ErrRange})
		}
	}
	return l
}

// badLists are guests that are not valid together, with their first errors.
func badLists() map[string]struct {
	l []api.Guest
	e api.Errno
} {
	type bad = struct {
		l []api.Guest
		e api.Errno
	}
	of := func(e api.Errno, l ...api.Guest) bad { return bad{l, e} }
	good, ranks, nobody := api.Guest{Name: "a"}, api.Guest{Name: "a", Rank: 10}, api.Guest{}
	all := map[string]bad{
		"a name twice":                 of(api.ErrExists, good, api.Guest{Name: "b"}, api.Guest{Name: "a", Rank: 1, Honour: 2}),
		"the last name twice":          of(api.ErrExists, append(plain(6), api.Guest{Name: name(5)})...),
		"a number before a name twice": of(api.ErrRange, good, ranks),
		"a name twice before no name":  of(api.ErrExists, good, good, nobody),
		"a number before no name":      of(api.ErrRange, ranks, nobody),
		"no name before a name twice":  of(api.ErrForm, good, nobody, good),
		"no name before a number":      of(api.ErrForm, nobody, ranks),
		"no name twice":                of(api.ErrForm, nobody, nobody),
	}
	for i, c := range badGuests() {
		all["alone "+strconv.Itoa(i)] = of(c.e, c.g)
		all["last "+strconv.Itoa(i)] = of(c.e, append(plain(3), c.g)...)
	}
	return all
}

// refused fails the test unless all functions that take a party return this error of it, and nothing else, whatever else they are given.
func refused(t *testing.T, name string, p api.Party, want api.Errno) {
	t.Helper()
	broken, price, a := seat.Price(p, []int{9, 9})
	count, b := seat.Count(p)
	order, least, c := seat.Best(p)
	verdicts, d := seat.Sure(p)
	rules, f := seat.Conflict(p)
	text, g := seat.Write(p)
	said := []api.Errno{seat.Check(p), a, b, c, d, f, g}
	if !slices.Equal(said, slices.Repeat([]api.Errno{want}, 7)) || len(broken)+price+count+len(order)+least+len(verdicts)+len(rules)+len(text) > 0 {
		t.Error(name, said, want)
	}
}

func TestGuestsThatAreNotValid(t *testing.T) {
	for name, c := range badLists() {
		// Rules, bonds and dishes that are not valid come behind.
		refused(t, name, api.Party{Guests: c.l, Rules: make([]api.Rule, 13)}, c.e)
		refused(t, name, api.Party{Guests: c.l}, c.e)
		list, honour, a := seat.Invite(c.l, make([]api.Bond, 21), -1)
		menu, cost, b := seat.Menu(c.l, make([]api.Dish, 17), 0, -1)
		if a != c.e || b != c.e || len(list)+honour+len(menu)+cost > 0 {
			t.Error(name, a, b, c.e)
		}
	}
	for _, c := range badGuests() {
		if verdict, e := seat.Eats(c.g, api.Dish{Turn: -1}); verdict != 0 || e != c.e {
			t.Error(c, verdict, e)
		}
	}
	refused(t, "nobody", api.Party{Rules: make([]api.Rule, 13)}, api.ErrShort)
	refused(t, "8 guests", api.Party{Guests: plain(8), Rules: make([]api.Rule, 13)}, api.ErrFull)
	refused(t, "8 that are none", api.Party{Guests: make([]api.Guest, 8)}, api.ErrFull)
}

func TestGuestsThatAreValid(t *testing.T) {
	for i, p := range []api.Party{
		partyP(), party(1), party(7),
		{Guests: []api.Guest{{Name: "a"}, {Name: "z"}, {Name: "abcdefgh"}, {Name: "ab"}, {Name: "aa"}, {Name: "stuvwxyz"}}},
	} {
		if e := seat.Check(p); e != api.OK {
			t.Error(i, e)
		}
	}
	for i, most := range greatest() {
		for _, n := range []int{0, 1, most - 1, most} {
			g := api.Guest{Name: "eve"}
			*numbers(&g)[i] = n
			_, e := seat.Eats(g, api.Dish{})
			if f := seat.Check(api.Party{Guests: []api.Guest{g}}); e != api.OK || f != api.OK {
				t.Error(g, e, f)
			}
		}
	}
}

// badRules are rules that are not valid for three guests, with their first errors.
func badRules() map[api.Rule]api.Errno {
	l := map[api.Rule]api.Errno{}
	for _, kind := range []int{0, 7, -1, 13, math.MinInt, math.MaxInt} {
		for _, r := range []api.Rule{rule(kind, 0, 0, 0), rule(kind, 0, 1, 1), rule(kind, 3, -1, 1001)} {
			l[r] = api.ErrKind
		}
	}
	far := []int{-1, 3, 7, math.MinInt, math.MaxInt}
	for _, n := range far {
		for _, kind := range []int{api.RuleBefore, api.RuleBeside, api.RuleApart} {
			for _, r := range []api.Rule{rule(kind, n, 0, 0), rule(kind, 0, n, 0), rule(kind, n, n, 0), rule(kind, n, 1, -1), rule(kind, 1, n, 1001)} {
				l[r] = api.ErrMissing
			}
		}
		for _, kind := range []int{api.RuleFirst, api.RuleLast} {
			for _, r := range []api.Rule{rule(kind, n, 0, 0), rule(kind, n, 1, 0), rule(kind, n, n, 0), rule(kind, n, 0, -1)} {
				l[r] = api.ErrMissing
			}
			l[rule(kind, 1, n, 0)], l[rule(kind, 0, n, 1001)] = api.ErrForm, api.ErrForm
		}
		l[rule(api.RuleRank, n, 0, 0)], l[rule(api.RuleRank, 0, n, 0)] = api.ErrForm, api.ErrForm
	}
	for _, n := range []int{0, 1, 2} {
		for _, kind := range []int{api.RuleBefore, api.RuleBeside, api.RuleApart} {
			// With itself.
			l[rule(kind, n, n, 0)], l[rule(kind, n, n, -1)] = api.ErrForm, api.ErrForm
		}
		if n > 0 {
			for _, r := range []api.Rule{rule(api.RuleFirst, 0, n, 0), rule(api.RuleLast, n, n, 0), rule(api.RuleRank, n, 0, 0), rule(api.RuleRank, 0, n, 5), rule(api.RuleRank, n, n, 0), rule(api.RuleFirst, 2, n, 1001), rule(api.RuleRank, n, 0, -1)} {
				l[r] = api.ErrForm
			}
		}
	}
	for _, weight := range []int{-1, 1001, math.MinInt, math.MaxInt} {
		for _, r := range []api.Rule{rule(api.RuleBefore, 0, 1, weight), rule(api.RuleBeside, 2, 1, weight), rule(api.RuleApart, 1, 0, weight), rule(api.RuleFirst, 2, 0, weight), rule(api.RuleLast, 0, 0, weight), rule(api.RuleRank, 0, 0, weight)} {
			l[r] = api.ErrRange
		}
	}
	return l
}

func TestRulesThatAreNotValid(t *testing.T) {
	good := keep(api.RuleRank, 0, 0)
	for r, e := range badRules() {
		refused(t, "alone", party(3, r), e)
		refused(t, "the last one", party(3, append(slices.Repeat([]api.Rule{good}, 11), r)...), e)
		// The first one that is not valid counts.
		refused(t, "before another one", party(3, good, r, api.Rule{}), e)
		refused(t, "before another one", party(3, good, r, rule(api.RuleFirst, 9, 0, 0)), e)
		refused(t, "before another one", party(3, good, r, rule(api.RuleRank, 0, 0, 1001)), e)
		refused(t, "one of 13", party(3, append(slices.Repeat([]api.Rule{r}, 12), good)...), api.ErrFull)
	}
	refused(t, "13 rules", party(3, slices.Repeat([]api.Rule{good}, 13)...), api.ErrFull)
	refused(t, "very many rules", party(3, make([]api.Rule, 100000)...), api.ErrFull)
	for i, p := range []api.Party{
		party(3, slices.Repeat([]api.Rule{good}, 12)...),
		party(2, rule(api.RuleBefore, 0, 1, 1000), rule(api.RuleBeside, 1, 0, 1), rule(api.RuleApart, 0, 1, 999)),
		party(7, keep(api.RuleFirst, 6, 0), keep(api.RuleLast, 6, 0), keep(api.RuleBefore, 6, 5)),
		party(1, keep(api.RuleFirst, 0, 0), keep(api.RuleLast, 0, 0), good),
	} {
		if e := seat.Check(p); e != api.OK {
			t.Error(i, e)
		}
	}
}

func TestPrice(t *testing.T) {
	each := []api.Rule{rule(api.RuleBefore, 0, 1, 1), rule(api.RuleBeside, 1, 2, 2), rule(api.RuleApart, 2, 3, 4), rule(api.RuleFirst, 3, 0, 8), rule(api.RuleLast, 0, 0, 16), rule(api.RuleRank, 0, 0, 32)}
	full := slices.Repeat([]api.Rule{rule(api.RuleFirst, 1, 0, 1000)}, 12)
	for name, c := range map[string]struct {
		p             api.Party
		order, broken []int
		price         int
	}{
		"no rules":   {party(3), []int{2, 1, 0}, nil, 0},
		"one guest":  {party(1, keep(api.RuleFirst, 0, 0), keep(api.RuleLast, 0, 0), keep(api.RuleRank, 0, 0)), []int{0}, nil, 0},
		"each":       {ranked([]int{1, 2, 3, 4}, each...), []int{0, 1, 2, 3}, []int{2, 3, 4, 5}, 60},
		"backwards":  {ranked([]int{1, 2, 3, 4}, each...), []int{3, 2, 1, 0}, []int{0, 2}, 5},
		"otherwise":  {ranked([]int{1, 2, 3, 4}, each...), []int{2, 0, 1, 3}, []int{1, 3, 4, 5}, 58},
		"strict too": {ranked([]int{0, 1}, keep(api.RuleRank, 0, 0), rule(api.RuleFirst, 1, 0, 7), keep(api.RuleApart, 0, 1)), []int{0, 1}, []int{0, 1, 2}, 7},
		"the most":   {party(2, full...), []int{0, 1}, upTo(12), 12000},
		"equals":     {ranked([]int{5, 9, 5, 5}, rule(api.RuleRank, 0, 0, 3)), []int{1, 3, 0, 2}, nil, 0},
		"one above":  {ranked([]int{5, 9, 5, 5}, rule(api.RuleRank, 0, 0, 3)), []int{3, 1, 0, 2}, []int{0}, 3},
		"at the end": {ranked([]int{5, 5, 5, 6}, rule(api.RuleRank, 0, 0, 3)), []int{0, 1, 2, 3}, []int{0}, 3},
		"7 by rank":  {ranked([]int{9, 8, 7, 6, 5, 4, 3}, rule(api.RuleRank, 0, 0, 3)), upTo(7), nil, 0},
		"7, one off": {ranked([]int{9, 8, 7, 6, 5, 3, 4}, rule(api.RuleRank, 0, 0, 3)), upTo(7), []int{0}, 3},
		// The first seat and the last one are no neighbours.
		"no round":     {party(4, rule(api.RuleBeside, 0, 3, 1), rule(api.RuleApart, 0, 3, 2)), []int{0, 1, 2, 3}, []int{0}, 1},
		"not too near": {party(4, rule(api.RuleBeside, 0, 2, 1), rule(api.RuleApart, 2, 0, 2)), []int{0, 1, 2, 3}, []int{0}, 1},
		"neighbours":   {party(4, rule(api.RuleBeside, 3, 2, 1), rule(api.RuleApart, 2, 3, 2)), []int{0, 1, 2, 3}, []int{1}, 2},
	} {
		if broken, price := priceOf(t, c.p, c.order); !slices.Equal(broken, c.broken) || price != c.price {
			t.Error(name, broken, price)
		}
	}
	for _, order := range [][]int{nil, {0}, {0, 1}, {0, 1, 2, 3}, {0, 1, 2, 2}, {0, 1, 1}, {0, 0, 1}, {2, 1, 2}, {1, 2, 3}, {0, 1, -1}, {-1, 0, 1, 2}, {math.MinInt, 1, 2}, {0, 1, math.MaxInt}, make([]int, 100000)} {
		if broken, price, e := seat.Price(partyP(), order); len(broken) > 0 || price != 0 || e != api.ErrForm {
			t.Error(order, broken, price, e)
		}
	}
}

// orderCases are parties, with how many orders are allowed, the best one, and its price.
func orderCases() map[string]struct {
	p     api.Party
	count int
	best  []int
	price int
} {
	type of = struct {
		p     api.Party
		count int
		best  []int
		price int
	}
	return map[string]of{
		"one":         {party(1), 1, []int{0}, 0},
		"7":           {party(7), 5040, upTo(7), 0},
		"before":      {party(7, keep(api.RuleBefore, 6, 0)), 2520, []int{1, 2, 3, 4, 5, 6, 0}, 0},
		"beside":      {party(7, keep(api.RuleBeside, 6, 0)), 1440, []int{0, 6, 1, 2, 3, 4, 5}, 0},
		"apart":       {party(7, keep(api.RuleApart, 0, 1)), 3600, []int{0, 2, 1, 3, 4, 5, 6}, 0},
		"first":       {party(7, keep(api.RuleFirst, 4, 0)), 720, []int{4, 0, 1, 2, 3, 5, 6}, 0},
		"last":        {party(7, keep(api.RuleLast, 4, 0)), 720, []int{0, 1, 2, 3, 5, 6, 4}, 0},
		"no ranks":    {party(7, keep(api.RuleRank, 0, 0)), 5040, upTo(7), 0},
		"by rank":     {ranked([]int{3, 9, 3, 0, 9, 3, 4}, keep(api.RuleRank, 0, 0)), 12, []int{1, 4, 6, 0, 2, 5, 3}, 0},
		"one order":   {ranked([]int{0, 1, 2, 3, 4, 5, 6}, keep(api.RuleRank, 0, 0)), 1, []int{6, 5, 4, 3, 2, 1, 0}, 0},
		"none":        {party(2, keep(api.RuleApart, 0, 1)), 0, nil, 0},
		"neither":     {party(3, keep(api.RuleBefore, 0, 1), keep(api.RuleBefore, 1, 0)), 0, nil, 0},
		"costs":       {party(2, rule(api.RuleApart, 0, 1, 9)), 2, []int{0, 1}, 9},
		"the cheaper": {party(3, rule(api.RuleFirst, 0, 0, 3), rule(api.RuleFirst, 2, 0, 4)), 6, []int{2, 0, 1}, 3},
		"as cheap":    {party(3, rule(api.RuleFirst, 2, 0, 4), rule(api.RuleFirst, 1, 0, 4)), 6, []int{1, 0, 2}, 4},
		// What must be kept comes before all that costs.
		"at any price": {party(3, append(slices.Repeat([]api.Rule{rule(api.RuleFirst, 0, 0, 1000)}, 11), keep(api.RuleLast, 0, 0))...), 2, []int{1, 2, 0}, 11000},
		"the most":     {party(2, slices.Repeat([]api.Rule{rule(api.RuleApart, 0, 1, 1000)}, 12)...), 2, []int{0, 1}, 12000},
		"the last one": {party(4, rule(api.RuleFirst, 3, 0, 1), rule(api.RuleBeside, 3, 2, 1), rule(api.RuleBeside, 2, 1, 1)), 24, []int{3, 2, 1, 0}, 0},
	}
}

// P8.1, P8.2

func TestCountAndBest(t *testing.T) {
	for name, c := range orderCases() {
		count := must[int](t)(seat.Count(c.p))
		order, price, e := seat.Best(c.p)
		want := api.OK
		if c.count == 0 {
			want = api.ErrClash
		}
		if count != c.count || !slices.Equal(order, c.best) || price != c.price || e != want {
			t.Error(name, count, order, price, e)
		}
	}
}

func TestSure(t *testing.T) {
	const s, n, o = api.Sure, api.Never, api.Open
	for name, c := range map[string]struct {
		p    api.Party
		want [][]int
	}{
		"one":           {party(1), [][]int{{n}}},
		"two":           {party(2), [][]int{{n, o}, {o, n}}},
		"by rank":       {ranked([]int{1, 2, 1}, keep(api.RuleRank, 0, 0)), [][]int{{n, n, o}, {s, n, s}, {o, n, n}}},
		"before":        {party(3, keep(api.RuleBefore, 2, 1), keep(api.RuleBefore, 1, 0)), [][]int{{n, n, n}, {s, n, n}, {s, s, n}}},
		"it costs":      {party(2, rule(api.RuleBefore, 1, 0, 1000)), [][]int{{n, o}, {o, n}}},
		"first, beside": {party(3, keep(api.RuleFirst, 1, 0), keep(api.RuleBeside, 1, 2)), [][]int{{n, n, n}, {s, n, s}, {s, n, n}}},
		"last":          {party(3, keep(api.RuleLast, 0, 0)), [][]int{{n, n, n}, {s, n, o}, {s, o, n}}},
	} {
		if l := must[[][]int](t)(seat.Sure(c.p)); !equal(l, c.want) {
			t.Error(name, l)
		}
	}
	for name, c := range orderCases() {
		l, e := seat.Sure(c.p)
		switch {
		case c.count == 0 && (e != api.ErrClash || len(l) > 0):
			t.Error(name, l, e)
		case c.count > 0 && (e != api.OK || len(l) != len(c.p.Guests)):
			t.Error(name, l, e)
		}
	}
}

// P8.3

func TestConflict(t *testing.T) {
	first, last, ranks := keep(api.RuleFirst, 1, 0), keep(api.RuleLast, 1, 0), keep(api.RuleRank, 0, 0)
	costs := rule(api.RuleFirst, 0, 0, 1)
	for name, c := range map[string]struct {
		p    api.Party
		want []int
	}{
		"first and last":     {party(3, first, last), []int{0, 1}},
		"what costs":         {party(3, costs, first, costs, last, costs), []int{1, 3}},
		"alone":              {party(2, first, keep(api.RuleApart, 1, 0)), []int{1}},
		"the first one":      {party(2, keep(api.RuleApart, 0, 1), keep(api.RuleApart, 1, 0)), []int{0}},
		"the first two":      {party(4, keep(api.RuleFirst, 0, 0), keep(api.RuleFirst, 1, 0), keep(api.RuleFirst, 2, 0)), []int{0, 1}},
		"twice the same":     {party(4, first, first, last), []int{0, 2}},
		"the fewest":         {party(3, keep(api.RuleBefore, 0, 1), keep(api.RuleBefore, 1, 2), keep(api.RuleBefore, 2, 0), keep(api.RuleLast, 0, 0)), []int{0, 3}},
		"a ring":             {party(5, keep(api.RuleBefore, 0, 1), keep(api.RuleBefore, 1, 2), keep(api.RuleBefore, 2, 3), keep(api.RuleBefore, 3, 4), keep(api.RuleBefore, 4, 0)), []int{0, 1, 2, 3, 4}},
		"a later ring":       {party(5, keep(api.RuleApart, 0, 1), keep(api.RuleBefore, 3, 2), first, keep(api.RuleBefore, 2, 3), keep(api.RuleBefore, 4, 0)), []int{1, 3}},
		"by rank":            {ranked([]int{3, 1, 2}, ranks, first), []int{0, 1}},
		"ranks and before":   {ranked([]int{3, 1, 2}, keep(api.RuleBefore, 0, 1), ranks, keep(api.RuleBefore, 1, 2)), []int{1, 2}},
		"three neighbours":   {party(4, keep(api.RuleBeside, 3, 0), keep(api.RuleBeside, 1, 3), keep(api.RuleBeside, 3, 2)), []int{0, 1, 2}},
		"at an end":          {party(4, keep(api.RuleFirst, 3, 0), keep(api.RuleBeside, 1, 3), keep(api.RuleBeside, 3, 2)), []int{0, 1, 2}},
		"a ring of 7":        {party(7, append([]api.Rule{keep(api.RuleBeside, 6, 0)}, neighbours(7)...)...), upTo(7)},
		"the first in order": {party(7, keep(api.RuleBefore, 5, 6), keep(api.RuleBefore, 0, 1), keep(api.RuleBefore, 6, 5), keep(api.RuleBefore, 1, 0)), []int{0, 2}},
	} {
		if l := must[[]int](t)(seat.Conflict(c.p)); !slices.Equal(l, c.want) {
			t.Error(name, l)
		}
	}
	for name, p := range map[string]api.Party{
		"no rules": party(3), "one guest": party(1), "what costs alone": party(2, rule(api.RuleApart, 0, 1, 1), rule(api.RuleFirst, 0, 0, 1), rule(api.RuleFirst, 1, 0, 1)), "one way": party(7, neighbours(7)...),
	} {
		if l, e := seat.Conflict(p); len(l) > 0 || e != api.ErrMissing {
			t.Error(name, l, e)
		}
	}
}

// neighbours returns the rules that put so many guests in the order of their numbers, or the other way round.
func neighbours(guests int) []api.Rule {
	var l []api.Rule
	for i := 1; i < guests; i++ {
		l = append(l, keep(api.RuleBeside, i-1, i))
	}
	return l
}

// P8.4

// honoured returns guests of these honours.
func honoured(honours ...int) []api.Guest {
	l := plain(len(honours))
	for i, honour := range honours {
		l[i].Honour = honour
	}
	return l
}

func feud(a, b int) api.Bond { return api.Bond{Kind: api.BondFeud, A: a, B: b} }

func with(a, b int) api.Bond { return api.Bond{Kind: api.BondWith, A: a, B: b} }

func TestInvite(t *testing.T) {
	for name, c := range map[string]struct {
		l      []api.Guest
		bonds  []api.Bond
		seats  int
		want   []int
		honour int
	}{
		"nobody known":   {nil, nil, 7, nil, 0},
		"no seats":       {honoured(5), nil, 0, nil, 0},
		"all":            {honoured(5, 3, 1), nil, 3, []int{0, 1, 2}, 9},
		"the greatest":   {honoured(3, 5, 1, 5), nil, 2, []int{1, 3}, 10},
		"no honour":      {honoured(0, 0, 0), nil, 3, nil, 0},
		"some honour":    {honoured(0, 7, 0), nil, 3, []int{1}, 7},
		"the first":      {honoured(4, 4, 4), nil, 1, []int{0}, 4},
		"the first two":  {honoured(1, 4, 4, 4), nil, 2, []int{1, 2}, 8},
		"fewer":          {honoured(2, 3, 5), []api.Bond{feud(0, 2), feud(1, 2)}, 3, []int{2}, 5},
		"fewer at first": {honoured(5, 3, 2), []api.Bond{feud(0, 2), feud(1, 0)}, 3, []int{0}, 5},
		"10 and 7 seats": {honoured(1000, 1000, 1000, 1000, 1000, 1000, 1000, 1000, 1000, 1000), nil, 7, upTo(7), 7000},
		"feud":           {honoured(5, 4), []api.Bond{feud(1, 0)}, 7, []int{0}, 5},
		"with":           {honoured(9, 1, 3), []api.Bond{with(0, 1)}, 1, []int{2}, 3},
		"with, two":      {honoured(9, 1, 3), []api.Bond{with(0, 1)}, 2, []int{0, 1}, 10},
		"the other one":  {honoured(1, 9, 3), []api.Bond{with(0, 1)}, 1, []int{1}, 9},
		"with no honour": {honoured(9, 0, 3), []api.Bond{with(0, 1), with(1, 2)}, 3, []int{0, 1, 2}, 12},
		"a chain":        {honoured(9, 0, 3), []api.Bond{with(0, 1), with(1, 2)}, 2, []int{2}, 3},
		"both":           {honoured(9, 3), []api.Bond{with(0, 1), feud(0, 1)}, 2, []int{1}, 3},
		"neither":        {honoured(9, 3), []api.Bond{with(0, 1), feud(0, 1), with(1, 0)}, 2, nil, 0},
		"20 bonds":       {honoured(9, 3), slices.Repeat([]api.Bond{feud(0, 1)}, 20), 2, []int{0}, 9},
		"the last bond":  {honoured(3, 9, 4), append(slices.Repeat([]api.Bond{feud(0, 1)}, 19), feud(1, 2)), 2, []int{1}, 9},
		"no other seats": {honoured(3, 3, 3), []api.Bond{feud(0, 1)}, 2, []int{0, 2}, 6},
		"seats to spare": {honoured(3, 3, 3), []api.Bond{feud(0, 1)}, 7, []int{0, 2}, 6},
	} {
		if l, honour, e := seat.Invite(c.l, c.bonds, c.seats); !slices.Equal(l, c.want) || honour != c.honour || e != api.OK {
			t.Error(name, l, honour, e)
		}
	}
}

func TestInviteRefuses(t *testing.T) {
	type bonds = []api.Bond
	for name, c := range map[string]struct {
		l     []api.Guest
		bonds bonds
		seats int
		e     api.Errno
	}{
		"11 guests":              {plain(11), bonds{{}}, -1, api.ErrFull},
		"11 that are none":       {make([]api.Guest, 11), nil, 3, api.ErrFull},
		"21 bonds":               {plain(3), slices.Repeat(bonds{feud(0, 1)}, 21), -1, api.ErrFull},
		"21 that are none":       {plain(3), make(bonds, 21), 3, api.ErrFull},
		"no kind":                {plain(3), bonds{{B: 1}}, -1, api.ErrKind},
		"a third kind":           {plain(3), bonds{{Kind: 3, A: 9, B: 9}}, -1, api.ErrKind},
		"below":                  {plain(3), bonds{{Kind: -1, B: 1}}, 3, api.ErrKind},
		"far off":                {plain(3), bonds{{Kind: math.MaxInt, B: 1}}, 3, api.ErrKind},
		"no guest":               {plain(3), bonds{feud(3, 0)}, -1, api.ErrMissing},
		"no other guest":         {plain(3), bonds{with(0, 3)}, -1, api.ErrMissing},
		"guests below":           {plain(3), bonds{with(-1, 0)}, 3, api.ErrMissing},
		"other guests below":     {plain(3), bonds{feud(0, -1)}, 3, api.ErrMissing},
		"guests far off":         {plain(3), bonds{feud(math.MinInt, math.MaxInt)}, 3, api.ErrMissing},
		"neither":                {plain(3), bonds{with(5, 5)}, 3, api.ErrMissing},
		"of nobody":              {nil, bonds{with(0, 0)}, 3, api.ErrMissing},
		"with itself":            {plain(3), bonds{with(2, 2)}, -1, api.ErrForm},
		"a feud with itself":     {plain(3), bonds{feud(0, 0)}, 3, api.ErrForm},
		"the last one":           {plain(3), append(slices.Repeat(bonds{feud(0, 1)}, 19), feud(1, 1)), 3, api.ErrForm},
		"itself before no kind":  {plain(3), bonds{feud(0, 0), {}}, 3, api.ErrForm},
		"no guest before none":   {plain(3), bonds{feud(0, 3), {}, feud(1, 1)}, 3, api.ErrMissing},
		"no kind before none":    {plain(3), bonds{{Kind: 3, B: 1}, feud(3, 0)}, 3, api.ErrKind},
		"seats below":            {plain(3), nil, -1, api.ErrRange},
		"8 seats":                {plain(3), nil, 8, api.ErrRange},
		"seats without end":      {plain(3), nil, math.MaxInt, api.ErrRange},
		"seats without a begin":  {nil, nil, math.MinInt, api.ErrRange},
		"8 seats for 10":         {plain(10), nil, 8, api.ErrRange},
		"bonds before the seats": {plain(3), bonds{feud(0, 0)}, 8, api.ErrForm},
	} {
		if l, honour, e := seat.Invite(c.l, c.bonds, c.seats); len(l) > 0 || honour != 0 || e != c.e {
			t.Error(name, l, honour, e)
		}
	}
}

// P8.5

func TestEats(t *testing.T) {
	for _, c := range []struct{ never, maybe, parts, want int }{
		{0, 0, 0, api.Sure}, {0, 0, 255, api.Sure}, {255, 255, 0, api.Sure}, {255, 0, 1, api.Never}, {0, 255, 1, api.Open}, {255, 255, 128, api.Never},
		{1, 2, 3, api.Never}, {1, 2, 2, api.Open}, {1, 2, 252, api.Sure}, {128, 127, 127, api.Open}, {128, 127, 255, api.Never}, {127, 0, 128, api.Sure}, {4, 4, 4, api.Never}, {4, 12, 8, api.Open}, {85, 0, 170, api.Sure}, {85, 170, 170, api.Open},
	} {
		g := api.Guest{Name: "eve", Rank: 9, Honour: 1000, Never: c.never, Maybe: c.maybe}
		for _, d := range []api.Dish{{Parts: c.parts}, {Turn: 3, Parts: c.parts, Cost: 1000}} {
			if verdict := must[int](t)(seat.Eats(g, d)); verdict != c.want {
				t.Error(c, d, verdict)
			}
		}
	}
}

// badDishes are dishes that are not valid.
func badDishes() []api.Dish {
	var l []api.Dish
	for i, most := range []int{3, 255, 1000} {
		for _, n := range []int{-1, most + 1, math.MinInt, math.MaxInt} {
			d := api.Dish{Turn: 1, Parts: 1, Cost: 1}
			*[]*int{&d.Turn, &d.Parts, &d.Cost}[i] = n
			l = append(l, d)
		}
	}
	return l
}

func TestDishesThatAreNotValid(t *testing.T) {
	g, good := api.Guest{Name: "eve"}, api.Dish{}
	for _, d := range badDishes() {
		if verdict, e := seat.Eats(g, d); verdict != 0 || e != api.ErrRange {
			t.Error(d, verdict, e)
		}
		for _, dishes := range [][]api.Dish{{d}, {good, d}, append(slices.Repeat([]api.Dish{good}, 15), d)} {
			if menu, cost, e := seat.Menu(nil, dishes, 1, 0); len(menu) > 0 || cost != 0 || e != api.ErrRange {
				t.Error(dishes, menu, cost, e)
			}
		}
	}
}

func TestMenu(t *testing.T) {
	ann, bob := api.Guest{Name: "ann", Never: 1}, api.Guest{Name: "bob", Never: 2, Maybe: 4}
	dish := func(turn, parts, cost int) api.Dish { return api.Dish{Turn: turn, Parts: parts, Cost: cost} }
	each := []api.Dish{dish(3, 0, 4), dish(2, 0, 3), dish(1, 0, 2), dish(0, 0, 1)}
	mixed := []api.Dish{dish(0, 1, 5), dish(1, 2, 5), dish(0, 2, 4), dish(1, 1, 6), dish(0, 0, 9), dish(1, 0, 9), dish(2, 4, 1)}
	for name, c := range map[string]struct {
		l           []api.Guest
		dishes      []api.Dish
		turns, need int
		want        []int
		cost        int
		e           api.Errno
	}{
		"one turn":           {nil, each, 1, 0, []int{3}, 1, api.OK},
		"two turns":          {nil, each, 2, 2, []int{3, 2}, 3, api.OK},
		"four turns":         {[]api.Guest{ann, bob}, each, 4, 4, []int{3, 2, 1, 0}, 10, api.OK},
		"none needed":        {[]api.Guest{ann, bob}, mixed, 2, 0, []int{2, 1}, 9, api.OK},
		"one needed":         {[]api.Guest{ann, bob}, mixed, 2, 1, []int{0, 1}, 10, api.OK},
		"one for ann":        {[]api.Guest{ann}, mixed, 2, 1, []int{2, 1}, 9, api.OK},
		"one for bob":        {[]api.Guest{bob}, mixed, 2, 1, []int{0, 1}, 10, api.OK},
		"both for bob":       {[]api.Guest{bob}, mixed, 2, 2, []int{0, 3}, 11, api.OK},
		"two needed":         {[]api.Guest{ann, bob}, mixed, 2, 2, []int{4, 5}, 18, api.OK},
		"two of three":       {[]api.Guest{ann, bob}, mixed, 3, 2, []int{0, 5, 6}, 15, api.OK},
		"three for ann":      {[]api.Guest{ann}, mixed, 3, 3, []int{2, 1, 6}, 10, api.OK},
		"perhaps is too few": {[]api.Guest{ann, bob}, mixed, 3, 3, nil, 0, api.ErrMissing},
		"no fourth turn":     {nil, mixed, 4, 0, nil, 0, api.ErrMissing},
		"no dishes":          {nil, nil, 1, 0, nil, 0, api.ErrMissing},
		"no first turn":      {nil, each[:3], 1, 0, nil, 0, api.ErrMissing},
		"later turns":        {nil, []api.Dish{dish(1, 0, 0), dish(0, 0, 7)}, 1, 1, []int{1}, 7, api.OK},
		"the first one":      {nil, []api.Dish{dish(0, 0, 7), dish(0, 0, 6), dish(0, 0, 6)}, 1, 1, []int{1}, 6, api.OK},
		"the first in order": {nil, []api.Dish{dish(1, 0, 2), dish(0, 0, 3), dish(0, 0, 3), dish(1, 0, 2)}, 2, 0, []int{1, 0}, 5, api.OK},
		"for nothing":        {nil, []api.Dish{dish(0, 255, 0)}, 1, 1, []int{0}, 0, api.OK},
		"the most":           {plain(10), slices.Repeat([]api.Dish{dish(0, 0, 1000), dish(1, 0, 1000), dish(2, 0, 1000), dish(3, 0, 1000)}, 4), 4, 4, []int{0, 1, 2, 3}, 4000, api.OK},
		"nobody eats it":     {append(plain(9), api.Guest{Name: "z", Never: 255}), []api.Dish{dish(0, 128, 1)}, 1, 1, nil, 0, api.ErrMissing},
	} {
		if menu, cost, e := seat.Menu(c.l, c.dishes, c.turns, c.need); !slices.Equal(menu, c.want) || cost != c.cost || e != c.e {
			t.Error(name, menu, cost, e)
		}
	}
}

func TestMenuRefuses(t *testing.T) {
	good := []api.Dish{{}, {Turn: 1}, {Turn: 2}, {Turn: 3}}
	for name, c := range map[string]struct {
		l           []api.Guest
		dishes      []api.Dish
		turns, need int
		e           api.Errno
	}{
		"11 guests":           {plain(11), make([]api.Dish, 17), 0, 0, api.ErrFull},
		"11 that are none":    {make([]api.Guest, 11), good, 1, 0, api.ErrFull},
		"17 dishes":           {plain(10), make([]api.Dish, 17), 1, 0, api.ErrFull},
		"17 that are none":    {plain(1), slices.Repeat([]api.Dish{{Turn: 4}}, 17), 0, 0, api.ErrFull},
		"dishes before turns": {nil, []api.Dish{{Turn: 4}}, 0, 0, api.ErrRange},
		"no turns":            {nil, good, 0, 0, api.ErrRange},
		"turns below":         {nil, good, -1, 0, api.ErrRange},
		"5 turns":             {nil, good, 5, 0, api.ErrRange},
		"far too many turns":  {nil, good, math.MaxInt, 0, api.ErrRange},
		"far too few turns":   {nil, good, math.MinInt, math.MinInt, api.ErrRange},
		"need below":          {nil, good, 4, -1, api.ErrRange},
		"need above":          {nil, good, 3, 4, api.ErrRange},
		"need far above":      {nil, good, 4, math.MaxInt, api.ErrRange},
		"need far below":      {nil, good, 4, math.MinInt, api.ErrRange},
		"need before none":    {nil, nil, 1, 2, api.ErrRange},
	} {
		if menu, cost, e := seat.Menu(c.l, c.dishes, c.turns, c.need); len(menu) > 0 || cost != 0 || e != c.e {
			t.Error(name, menu, cost, e)
		}
	}
	// Sixteen dishes and ten guests are not too many.
	if menu, cost, e := seat.Menu(plain(10), make([]api.Dish, 16), 1, 1); !slices.Equal(menu, []int{0}) || cost != 0 || e != api.OK {
		t.Error(menu, cost, e)
	}
}

// P8.6

// textP is the text of P, guestRow a row of a guest, ruleRow one of a rule.
const (
	textP    = "guest ann 3 5 0 0\nguest bob 1 5 0 0\nguest cid 2 5 0 0\nrule 6 0 0 10\nrule 4 1 0 0\nrule 2 0 2 4\n"
	guestRow = "guest eve 3 5 6 7\n"
	ruleRow  = "rule 6 0 0 10\n"
)

func TestTexts(t *testing.T) {
	var largest api.Party
	rows := ""
	for i := range 7 {
		name := "guest" + name(i)
		largest.Guests = append(largest.Guests, api.Guest{Name: name, Rank: 9, Honour: 1000, Never: 255, Maybe: 254})
		rows += "guest " + name + " 9 1000 255 254\n"
	}
	for range 12 {
		largest.Rules = append(largest.Rules, rule(api.RuleApart, 6, 5, 1000))
		rows += "rule 3 6 5 1000\n"
	}
	for i, c := range []struct {
		p    api.Party
		text string
	}{
		{partyP(), textP},
		{api.Party{Guests: []api.Guest{{Name: "eve", Rank: 3, Honour: 5, Never: 6, Maybe: 7}}}, guestRow},
		{api.Party{Guests: []api.Guest{{Name: "z"}}, Rules: []api.Rule{keep(api.RuleLast, 0, 0)}}, "guest z 0 0 0 0\nrule 5 0 0 0\n"},
		{party(2, rule(api.RuleBefore, 1, 0, 12), rule(api.RuleApart, 0, 1, 34)), "guest aa 0 0 0 0\nguest ab 0 0 0 0\nrule 1 1 0 12\nrule 3 0 1 34\n"},
		{largest, rows},
	} {
		if text, e := seat.Write(c.p); text != c.text || e != api.OK {
			t.Errorf("%v %q %v", i, text, e)
		}
		if p, row, e := seat.Read(c.text); !same(p, c.p) || row != 0 || e != api.OK {
			t.Error(i, p, row, e)
		}
	}
}

// wrongTexts are texts that are no parties, each with its row and its error.
func wrongTexts() map[string]struct {
	row int
	e   api.Errno
} {
	type wrong = struct {
		row int
		e   api.Errno
	}
	l := map[string]wrong{
		"":                              {0, api.ErrShort},
		ruleRow:                         {0, api.ErrShort},
		"\n":                            {1, api.ErrForm},
		guestRow + "\n":                 {2, api.ErrForm},
		guestRow + " ":                  {2, api.ErrForm},
		guestRow + "guest":              {2, api.ErrForm},
		"guest eve 3 5 6 7":             {1, api.ErrForm},
		guestRow + "rule 6 0 0 10":      {2, api.ErrForm},
		guestRow + ruleRow + "x":        {3, api.ErrForm},
		guestRow + ruleRow + guestRow:   {3, api.ErrForm},
		ruleRow + guestRow:              {2, api.ErrForm},
		ruleRow + ruleRow + guestRow:    {3, api.ErrForm},
		"rule 9 9 9 9999\n" + guestRow:  {2, api.ErrForm},
		guestRow + guestRow + "guest\n": {3, api.ErrForm},
		guestRow + "end 1\n":            {2, api.ErrForm},
		// What is wrong with the party is looked at behind all rows.
		guestRow + guestRow:                        {0, api.ErrExists},
		"guest A 0 0 0 0\n":                        {0, api.ErrForm},
		"guest 1 0 0 0 0\n":                        {0, api.ErrForm},
		"guest \x00 0 0 0 0\n":                     {0, api.ErrForm},
		"guest é 0 0 0 0\n":                        {0, api.ErrForm},
		"guest \t 0 0 0 0\n":                       {0, api.ErrForm},
		"guest guestrule 0 0 0 0\n":                {0, api.ErrForm},
		"guest A 0 0 0 0\nguest a 0 0 0\n":         {2, api.ErrForm},
		"guest guest 0 0 0 0\nrule 6 0 0 0\nrule ": {3, api.ErrForm},
		"guest eve 10 0 0 0\n":                     {0, api.ErrRange},
		"guest eve 0 999999 0 0\n":                 {0, api.ErrRange},
		"guest eve 0 0 256 0\n":                    {0, api.ErrRange},
		"guest eve 0 0 0 999999\n":                 {0, api.ErrRange},
		guestRow + "rule 7 0 0 0\n":                {0, api.ErrKind},
		guestRow + "rule 0 0 0 0\n":                {0, api.ErrKind},
		guestRow + "rule 4 1 0 0\n":                {0, api.ErrMissing},
		guestRow + "rule 1 0 999999 0\n":           {0, api.ErrMissing},
		guestRow + "rule 4 0 1 0\n":                {0, api.ErrForm},
		guestRow + "rule 1 0 0 0\n":                {0, api.ErrForm},
		guestRow + "rule 6 0 0 1001\n":             {0, api.ErrRange},
		strings.Repeat(guestRow, 8):                {0, api.ErrFull},
		guestRow + strings.Repeat(ruleRow, 13):     {0, api.ErrFull},
		strings.Repeat("x", 2000):                  {1, api.ErrForm},
		strings.Repeat("x", 2001):                  {0, api.ErrLong},
		strings.Repeat("\n", 2000):                 {1, api.ErrForm},
		strings.Repeat("\n", 2001):                 {0, api.ErrLong},
		strings.Repeat(guestRow, 200):              {0, api.ErrLong},
	}
	for _, row := range []string{"guest", "guest ", "guest eve", "guest eve 3 5 6", "guest eve 3 5 6 7 8", "guest  3 5 6 7", "guest 3 5 6 7", "guest eve 3 5 6 ", "guest eve 3 5 6 7 ", "guest  eve 3 5 6 7", " guest eve 3 5 6 7", "guest eve  3 5 6 7", "guest\teve 3 5 6 7", "guest eve 3 5 6 7\r", "Guest eve 3 5 6 7", "guests eve 3 5 6 7", "gues eve 3 5 6 7", "eve 3 5 6 7", "guest eve 03 5 6 7", "guest eve 3 00 6 7", "guest eve 3 5 +6 7", "guest eve 3 5 6 -7", "guest eve 3 5 6 -0", "guest eve 3 1000000 6 7", "guest eve 000003 5 6 7", "guest eve 3 5 x 7", "guest eve 3 5 ٣ 7", "guest eve eve 3 5 6 7", "", " ", "\x00", "\xff"} {
		l[row+"\n"] = wrong{1, api.ErrForm}
		l[guestRow+row+"\n"+ruleRow] = wrong{2, api.ErrForm}
	}
	for _, row := range []string{"rule", "rule ", "rule 6", "rule 6 0 0", "rule 6 0 0 10 0", "rule  6 0 0 10", "rule 6  0 0 10", "rule 6 0 0 10 ", " rule 6 0 0 10", "rule\t6 0 0 10", "rule 6 0 0 10\r", "Rule 6 0 0 10", "rules 6 0 0 10", "rul 6 0 0 10", "6 0 0 10", "rule 06 0 0 10", "rule 6 00 0 10", "rule 6 -0 0 10", "rule 6 0 +0 10", "rule 6 0 0 -1", "rule 6 0 0 1000000", "rule 6 0 0 x", "rule rank 0 0 10", "rule eve 6 0 0 10"} {
		l[guestRow+row+"\n"] = wrong{2, api.ErrForm}
		l[guestRow+ruleRow+row+"\n"+ruleRow] = wrong{3, api.ErrForm}
	}
	return l
}

func TestTextsThatAreNoParties(t *testing.T) {
	for text, c := range wrongTexts() {
		if p, row, e := seat.Read(text); !isZero(p) || row != c.row || e != c.e {
			t.Errorf("%.60q: %v %v %v, want %v %v", text, p, row, e, c.row, c.e)
		}
	}
}

// A text may be as long as the longest one.
func TestTextsOfAnyLength(t *testing.T) {
	for length := len(textP); length <= api.MaxScript+1; length++ {
		text := textP + strings.Repeat("x", length-len(textP))
		row, want := 7, api.ErrForm
		switch {
		case length > api.MaxScript:
			row, want = 0, api.ErrLong
		case length == len(textP):
			row, want = 0, api.OK
		}
		if _, got, e := seat.Read(text); got != row || e != want {
			t.Fatal(length, got, e)
		}
	}
	// A name may be as long as the text lets it be, until the guests are looked at.
	if _, row, e := seat.Read("guest " + strings.Repeat("a", 1985) + " 0 0 0 0\n"); row != 0 || e != api.ErrForm {
		t.Error(row, e)
	}
}

// read is what Read has to return for at most 2,000 bytes, by patterns for the rows.
func read(text string) (p api.Party, row int, e api.Errno) {
	const number = ` (0|[1-9][0-9]{0,5})`
	guest := regexp.MustCompile(`\Aguest ([^ \n]+)` + strings.Repeat(number, 4) + `\n\z`)
	rules := regexp.MustCompile(`\Arule` + strings.Repeat(number, 4) + `\n\z`)
	values := func(words []string) (l []int) {
		for _, s := range words {
			n, _ := strconv.Atoi(s)
			l = append(l, n)
		}
		return l
	}
	for i, line := range strings.SplitAfter(text, "\n") {
		switch {
		case len(p.Rules) == 0 && guest.MatchString(line):
			m := guest.FindStringSubmatch(line)
			n := values(m[2:])
			p.Guests = append(p.Guests, api.Guest{Name: m[1], Rank: n[0], Honour: n[1], Never: n[2], Maybe: n[3]})
		case rules.MatchString(line):
			n := values(rules.FindStringSubmatch(line)[1:])
			p.Rules = append(p.Rules, rule(n[0], n[1], n[2], n[3]))
		case line == "":
			// The text has ended.
		default:
			return api.Party{}, i + 1, api.ErrForm
		}
	}
	if e = seat.Check(p); e != api.OK {
		return api.Party{}, 0, e
	}
	return p, 0, api.OK
}

// edits returns all texts that come of one by a change, an insertion or a deletion of one byte, or of one row.
func edits(text string) []string {
	var l []string
	for i := range len(text) + 1 {
		for _, b := range []string{" ", "\n", "-", "0", "1", "2", "9", "e", "x", "\x00", "\xc3"} {
			l = append(l, text[:i]+b+text[i:])
			if i < len(text) {
				l = append(l, text[:i]+b+text[i+1:])
			}
		}
		if i < len(text) {
			l = append(l, text[:i]+text[i+1:])
		}
		l = append(l, text[:i], text[i:])
	}
	whole := strings.SplitAfter(text, "\n")
	for i := range whole {
		l = append(l, strings.Join(slices.Delete(slices.Clone(whole), i, i+1), ""))
		for k := range whole {
			l = append(l, strings.Join(slices.Insert(slices.Clone(whole), i, whole[k]), ""))
		}
	}
	return l
}

// Texts that are nearly parties are read, or refused, as the chapter says.
func TestTextsThatAreNearlyParties(t *testing.T) {
	said := map[api.Errno]int{}
	for _, text := range []string{textP, guestRow + ruleRow, "guest a 9 1000 255 254\nguest b 0 0 0 0\nrule 3 1 0 999\n", ruleRow} {
		for _, edited := range edits(text) {
			p, row, e := seat.Read(edited)
			want, wantRow, wantE := read(edited)
			if !same(p, want) || row != wantRow || e != wantE {
				t.Fatalf("%q: %v %v %v, want %v %v %v", edited, p, row, e, want, wantRow, wantE)
			}
			said[e]++
		}
	}
	for _, e := range []api.Errno{api.OK, api.ErrForm, api.ErrShort, api.ErrExists, api.ErrKind, api.ErrMissing, api.ErrRange} {
		if said[e] < 5 {
			t.Error(said)
		}
	}
}
