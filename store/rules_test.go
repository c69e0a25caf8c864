package store_test

import (
	"math"
	"math/rand/v2"
	"slices"
	"strings"
	"testing"

	"aloeswood/api"
	"aloeswood/store"
)

// input is what the functions of the package are called with.
type input struct {
	c          api.Chain
	link       api.Link
	owner, day int
	l          []api.Loan
	s          api.Season
	number     int
	plan       []int
	text       string
}

// calls returns the functions of the package, each with what it returns: its error, and whether all else is zero.
func (in input) calls() map[string]func() (api.Errno, bool) {
	return map[string]func() (api.Errno, bool){
		"CheckChain": func() (api.Errno, bool) { return store.CheckChain(in.c), true },
		"Orders":     func() (api.Errno, bool) { l, e := store.Orders(in.c); return e, len(l) == 0 },
		"Days": func() (api.Errno, bool) {
			made, links, e := store.Days(in.c)
			return e, made == (api.Span{}) && len(links) == 0
		},
		"Holders": func() (api.Errno, bool) { l, e := store.Holders(in.c, in.day); return e, len(l) == 0 },
		"Owned": func() (api.Errno, bool) {
			verdict, e := store.Owned(in.c, in.owner, in.day)
			return e, verdict == 0
		},
		"Add": func() (api.Errno, bool) { c, e := store.Add(in.c, in.link); return e, isZero(c) },
		"Lend": func() (api.Errno, bool) {
			l, worth, e := store.Lend(in.l)
			return e, len(l)+worth == 0
		},
		"CheckSeason": func() (api.Errno, bool) { return store.CheckSeason(in.s), true },
		"Combination": func() (api.Errno, bool) {
			l, e := store.Combination(in.s, in.number)
			return e, len(l) == 0
		},
		"Repeats": func() (api.Errno, bool) {
			gathering, guest, many, e := store.Repeats(in.s, in.plan)
			return e, gathering == 0 && guest == 0 && many == 0
		},
		"Plan": func() (api.Errno, bool) { l, e := store.Plan(in.s); return e, len(l) == 0 },
		"Fewest": func() (api.Errno, bool) {
			l, many, e := store.Fewest(in.s)
			return e, len(l)+many == 0
		},
		"Write": func() (api.Errno, bool) { s, e := store.Write(in.c); return e, s == "" },
		"Read": func() (api.Errno, bool) {
			c, row, e := store.Read(in.text)
			return e, isZero(c) && (row == 0 || e == api.ErrForm)
		},
	}
}

// texts are texts of many kinds.
func texts() []string {
	return []string{"", "\n", " ", "made", "link", "end", "end 0\n", textC, textC + textC, madeRow, linkRow, endRow, madeRow + linkRow + endRow, "\x00\xff", "made \xff\xfe 0 0\n", strings.Repeat("\n", 2000), strings.Repeat(" ", 2000), strings.Repeat(madeRow, 100), madeRow + strings.Repeat(linkRow, 100), strings.Repeat(linkRow, 100000), madeRow + strings.Repeat("end 0\n", 300)}
}

// someInput returns arguments most of which are valid.
func someInput(random *rand.Rand) input {
	in := input{c: someChain(random, 7, 3, 20), owner: random.IntN(20), day: random.IntN(25), l: someLoans(random, 12), s: someSeason(random, 3, 9, 12), text: textC}
	in.link = link(0, 1, span(0, 100))
	in.number = random.IntN(combinations(in.s))
	for range random.IntN(len(in.s.Gatherings) + 1) {
		in.plan = append(in.plan, random.IntN(combinations(in.s)))
	}
	return in
}

// odd returns a number of any size.
func odd(random *rand.Rand) int {
	numbers := []int{math.MinInt, math.MinInt + 1, -8, -1, 0, 1, 2, 3, 4, 5, 6, 7, 9, 11, 12, 19, 20, 49, 50, 63, 64, 65, 1000, 1001, 1296, 100000, 100001, math.MaxInt - 1, math.MaxInt}
	return numbers[random.IntN(len(numbers))]
}

// oddLink and oddLoan return what has any numbers.
func oddLink(random *rand.Rand) api.Link {
	return link(odd(random), odd(random), span(odd(random), odd(random)))
}

func oddLoan(random *rand.Rand) api.Loan {
	return loan(odd(random), odd(random), odd(random), odd(random))
}

// upset sets some arguments to any values.
func (in *input) upset(random *rand.Rand) {
	switch random.IntN(17) {
	case 0:
		in.c.Maker = odd(random)
	case 1:
		in.c.Made = span(odd(random), odd(random))
	case 2:
		in.c.Links = append(in.c.Links, oddLink(random))
	case 3:
		in.c.Links = make([]api.Link, 100000)
	case 4:
		in.link = oddLink(random)
	case 5:
		in.owner, in.day = odd(random), odd(random)
	case 6:
		in.l = append(in.l, oddLoan(random))
	case 7:
		in.l = make([]api.Loan, 100000)
	case 8:
		in.s.Sorts = append(in.s.Sorts, odd(random))
	case 9:
		in.s.Sorts = nil
	case 10:
		in.s.Sorts = make([]int, 100000)
	case 11:
		in.s.Gatherings = append(in.s.Gatherings, []int{odd(random), odd(random)})
	case 12:
		in.s.Gatherings = append(in.s.Gatherings, make([]int, random.IntN(2)*100000))
	case 13:
		in.s.Gatherings = make([][]int, 100000)
	case 14:
		in.number = odd(random)
	case 15:
		in.plan = append(in.plan, odd(random))
	case 16:
		in.plan = make([]int, 100000)
	}
}

// P1, R3, R5: no argument makes a function panic, and all is zero beside an error.
func TestAnyArguments(t *testing.T) {
	random := rand.New(rand.NewPCG(31, 9))
	done, refused, words := map[string]int{}, map[string]int{}, texts()
	for i := range 4000 {
		in := someInput(random)
		if i%3 > 0 {
			in.upset(random)
			in.text = words[i%len(words)]
		}
		for function, call := range in.calls() {
			e, zero := call()
			if e != api.OK && !zero {
				t.Fatal(function, in, e)
			}
			if e == api.OK {
				done[function]++
			} else {
				refused[function]++
			}
		}
	}
	// All are called with what is valid, and with what is not.
	if len(done) < 14 || len(refused) < 14 {
		t.Error(done, refused)
	}
}

// R4: a nil slice and an empty one are equal.
func TestNilAndEmptyAreEqual(t *testing.T) {
	for _, links := range [][]api.Link{nil, {}} {
		c := api.Chain{Made: span(4, 6), Links: links}
		orders := must[[][]int](t)(store.Orders(c))
		text := must[string](t)(store.Write(c))
		more := must[api.Chain](t)(store.Add(c, link(0, 1, day(9))))
		if !equal(orders, [][]int{{}}) || !slices.Equal(daysOf(t, c), []api.Span{span(4, 6)}) || text != "made 0 4 6\nend 0\n" || len(more.Links) != 1 {
			t.Error(orders, daysOf(t, c), text, more)
		}
	}
	for _, l := range [][]api.Loan{nil, {}} {
		if list, worth, e := store.Lend(l); len(list)+worth > 0 || e != api.OK {
			t.Error(list, worth, e)
		}
	}
	for _, none := range [][]int{nil, {}} {
		if e := store.CheckSeason(api.Season{Sorts: none}); e != api.ErrShort {
			t.Error(e)
		}
		if e := store.CheckSeason(season(1, none)); e != api.ErrShort {
			t.Error(e)
		}
		if gathering, guest, many, e := store.Repeats(seasonS(), none); gathering != -1 || guest != -1 || many != 0 || e != api.OK {
			t.Error(gathering, guest, many, e)
		}
	}
	for _, gatherings := range [][][]int{nil, {}} {
		s := api.Season{Sorts: []int{2}, Gatherings: gatherings}
		plan, many := fewestOf(t, s)
		if l := must[[]int](t)(store.Plan(s)); len(l)+len(plan)+many > 0 {
			t.Error(l, plan, many)
		}
	}
}

// blot changes all that a list has, also what is behind its end.
func blot[T any](l []T, with T) {
	for i := range l[:cap(l)] {
		l[:cap(l)][i] = with
	}
}

// apart fails the test if a change of what a function returned changes what it returned, or returns, another time.
func apart[T comparable](t *testing.T, function string, call func() []T, with T) {
	t.Helper()
	first := call()
	kept := slices.Clone(first)
	second := call()
	blot(first, with)
	if !slices.Equal(second, kept) || !slices.Equal(call(), kept) || len(kept) == 0 {
		t.Error(function, kept, second)
	}
}

// R4: what is given is not changed, and what is returned is new each time, and shares nothing.
func TestArgumentsAndResultsAreApart(t *testing.T) {
	// What lies behind the ends of the lists must not be used, either.
	links := append(chainC().Links, link(2, 0, day(33)), api.Link{})
	loans := []api.Loan{loan(1, 1, 5, 3), loan(1, 5, 9, 4), loan(2, 1, 9, 2), {}}
	numbers := []int{2, 1, 6, 0, 1, 5, 1, 2, 5, 0, 2, 5, 0, 0, 1, 5}
	sorts, guests := numbers[:3], [][]int{numbers[3:5:6], numbers[6:8:9], numbers[9:11:12], {7}}
	in := input{c: api.Chain{Made: span(10, 20), Links: links[:2]}, link: link(2, 0, day(33)), day: 32, l: loans[:2], plan: numbers[12:15], number: 1, text: textC}
	in.s = api.Season{Sorts: sorts[:2], Gatherings: guests[:3]}
	wantLinks, wantLoans, wantNumbers, wantGuests := slices.Clone(links), slices.Clone(loans), slices.Clone(numbers), slices.Clone(guests)
	intact := func() bool {
		return slices.Equal(links, wantLinks) && slices.Equal(loans, wantLoans) && slices.Equal(numbers, wantNumbers) && equal(guests, wantGuests)
	}
	for function, call := range in.calls() {
		if e, _ := call(); !intact() || e != api.OK {
			t.Fatal(function, in, e)
		}
	}
	for function, call := range map[string]func() []int{
		"Orders":      func() []int { return must[[][]int](t)(store.Orders(in.c))[0] },
		"Holders":     func() []int { return must[[]int](t)(store.Holders(in.c, in.day)) },
		"Lend":        func() []int { l, _, _ := store.Lend(in.l); return l },
		"Combination": func() []int { return must[[]int](t)(store.Combination(in.s, in.number)) },
		"Plan":        func() []int { return must[[]int](t)(store.Plan(in.s)) },
		"Fewest":      func() []int { l, _ := fewestOf(t, in.s); return l },
	} {
		apart(t, function, call, 77)
	}
	apart(t, "Days", func() []api.Span { _, l, _ := store.Days(in.c); return l }, day(77))
	apart(t, "Add", func() []api.Link { return must[api.Chain](t)(store.Add(in.c, in.link)).Links }, api.Link{})
	apart(t, "Read", func() []api.Link { c, _, _ := store.Read(textC); return c.Links }, api.Link{})
	// Neither do the lists of one result share anything.
	orders := must[[][]int](t)(store.Orders(ring(2, 7)))
	for i, order := range orders {
		kept := slices.Clone(order)
		for k := range orders {
			if k != i {
				blot(orders[k], 77)
			}
		}
		if !slices.Equal(order, kept) {
			t.Fatal(i, order, kept)
		}
		orders = must[[][]int](t)(store.Orders(ring(2, 7)))
	}
	if !intact() {
		t.Error(in)
	}
}

// Results do not depend on the order of a map: the same is returned each time.
func TestResultsAreTheSameEachTime(t *testing.T) {
	for _, c := range chains(32, 40, 7, 3, 20) {
		for day := range 22 {
			holders := must[[]int](t)(store.Holders(c, day))
			for range 10 {
				if l := must[[]int](t)(store.Holders(c, day)); !slices.Equal(l, holders) || !slices.IsSorted(l) {
					t.Fatal(c, day, holders, l)
				}
			}
		}
	}
	for _, s := range seasons(33, 60, 3, 9, 12) {
		plan := must[[]int](t)(store.Plan(s))
		fewest, many := fewestOf(t, s)
		gathering, guest, _, _ := store.Repeats(s, fewest)
		for range 5 {
			again, least := fewestOf(t, s)
			where, who, _, _ := store.Repeats(s, fewest)
			if l := must[[]int](t)(store.Plan(s)); !slices.Equal(l, plan) || !slices.Equal(again, fewest) || least != many || where != gathering || who != guest {
				t.Fatal(s, plan, fewest)
			}
		}
	}
}

// However guests stand in their gatherings, and however they are numbered, plans are the same.
func TestGuestsInAnyOrder(t *testing.T) {
	random := rand.New(rand.NewPCG(34, 9))
	for _, s := range seasons(35, 200, 2, 9, 12) {
		names := random.Perm(api.MaxGuests)
		other := api.Season{Sorts: s.Sorts}
		for _, guests := range s.Gatherings {
			var l []int
			for _, guest := range guests {
				l = append(l, names[guest])
			}
			random.Shuffle(len(l), func(i, k int) { l[i], l[k] = l[k], l[i] })
			other.Gatherings = append(other.Gatherings, l)
		}
		fewest, many := fewestOf(t, s)
		plan, least := fewestOf(t, other)
		if !slices.Equal(must[[]int](t)(store.Plan(s)), must[[]int](t)(store.Plan(other))) || !slices.Equal(fewest, plan) || many != least {
			t.Fatal(s, other, fewest, plan)
		}
	}
}

// The greatest chains, loans and seasons are looked at without an end that is too far off.
func TestTheGreatestStores(t *testing.T) {
	c := ring(2, 7)
	for range 50 {
		if l := must[[][]int](t)(store.Orders(c)); len(l) != 144 {
			t.Fatal(len(l))
		}
		if l := must[[]int](t)(store.Holders(c, 50000)); !slices.Equal(l, []int{-1, 0, 1}) {
			t.Fatal(l)
		}
	}
	every := slices.Repeat([][]int{upTo(12)}, 9)
	for things := 1; things <= api.MaxEach; things++ {
		for _, sorts := range [][]int{{things}, {2, things}, {things, 1, 6}} {
			s := api.Season{Sorts: sorts, Gatherings: every}
			all := min(combinations(s), 9)
			_, many := fewestOf(t, s)
			if l := must[[]int](t)(store.Plan(s)); len(l) != all || many != 12*(9-all) {
				t.Fatal(s, l, many)
			}
		}
	}
}
