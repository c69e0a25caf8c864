package store_test

import (
	"math/rand/v2"
	"slices"
	"testing"

	"aloeswood/api"
	"aloeswood/store"
)

// span returns a span, day that of one day.
func span(low, high int) api.Span { return api.Span{Lo: low, Hi: high} }

func day(n int) api.Span { return span(n, n) }

// link returns a link, loan a loan.
func link(from, to int, days api.Span) api.Link { return api.Link{From: from, To: to, Day: days} }

func loan(thing, from, to, worth int) api.Loan {
	return api.Loan{Thing: thing, From: from, To: to, Worth: worth}
}

// chainC is the chain C of the chapter, seasonS the season S.
func chainC() api.Chain {
	return api.Chain{Made: span(10, 20), Links: []api.Link{link(1, 2, span(30, 40)), link(0, 1, span(15, 35))}}
}

func seasonS() api.Season {
	return api.Season{Sorts: []int{2, 1}, Gatherings: [][]int{{0, 1}, {1, 2}, {0, 2}}}
}

// chainWith returns the chain C with a change, seasonWith the season S.
func chainWith(change func(c *api.Chain)) api.Chain {
	c := chainC()
	change(&c)
	return c
}

func seasonWith(change func(s *api.Season)) api.Season {
	s := seasonS()
	change(&s)
	return s
}

// season returns a season of one sort.
func season(things int, gatherings ...[]int) api.Season {
	return api.Season{Sorts: []int{things}, Gatherings: gatherings}
}

// must fails the test unless there was no error.
func must[T any](t *testing.T) func(v T, e api.Errno) T {
	return func(v T, e api.Errno) T {
		t.Helper()
		if e != api.OK {
			t.Fatal("unexpected", e)
		}
		return v
	}
}

// daysOf returns what Days says of a chain, all in one list: first when the thing was made, then when it was passed by each link.
func daysOf(t *testing.T, c api.Chain) []api.Span {
	t.Helper()
	made, links, e := store.Days(c)
	if e != api.OK || len(links) != len(c.Links) {
		t.Fatal("unexpected", c, links, e)
	}
	return append([]api.Span{made}, links...)
}

// repeatsOf returns how many repeats a plan has.
func repeatsOf(t *testing.T, s api.Season, plan []int) int {
	t.Helper()
	_, _, many, e := store.Repeats(s, plan)
	if e != api.OK {
		t.Fatal("unexpected", s, plan, e)
	}
	return many
}

// fewestOf returns what Fewest says of a season.
func fewestOf(t *testing.T, s api.Season) (plan []int, many int) {
	t.Helper()
	plan, many, e := store.Fewest(s)
	if e != api.OK {
		t.Fatal("unexpected", s, e)
	}
	return plan, many
}

// equal tells whether two lists of lists are equal.
func equal(a, b [][]int) bool { return slices.EqualFunc(a, b, slices.Equal[[]int]) }

// same tells whether two chains are equal.
func same(a, b api.Chain) bool {
	return a.Maker == b.Maker && a.Made == b.Made && slices.Equal(a.Links, b.Links)
}

// isZero tells whether a chain is the zero value.
func isZero(c api.Chain) bool { return same(c, api.Chain{}) }

// copied returns a chain that is equal, and apart.
func copied(c api.Chain) api.Chain {
	c.Links = slices.Clone(c.Links)
	return c
}

// some returns a number of a span, narrow a span within another one.
func some(random *rand.Rand, s api.Span) int { return s.Lo + random.IntN(s.Hi-s.Lo+1) }

func narrow(random *rand.Rand, s api.Span) api.Span {
	low := some(random, s)
	return span(low, some(random, span(low, s.Hi)))
}

// someChain returns a chain of at most so many links and owners, all of whose days are up to one, which is the way of a thing; so it often has a story.
func someChain(random *rand.Rand, links, owners, last int) api.Chain {
	c := api.Chain{Maker: random.IntN(owners), Made: narrow(random, span(0, last/2))}
	owner := c.Maker
	for range random.IntN(links + 1) {
		to := (owner + 1 + random.IntN(owners-1)) % owners
		c.Links = append(c.Links, link(owner, to, narrow(random, span(0, last))))
		owner = to
	}
	random.Shuffle(len(c.Links), func(i, k int) { c.Links[i], c.Links[k] = c.Links[k], c.Links[i] })
	return c
}

// chains returns so many chains as someChain does that have a story.
func chains(seed uint64, times, links, owners, last int) []api.Chain {
	random := rand.New(rand.NewPCG(seed, 9))
	var l []api.Chain
	for len(l) < times {
		if c := someChain(random, links, owners, last); store.CheckChain(c) == api.OK {
			l = append(l, c)
		}
	}
	return l
}

// someLoans returns at most so many loans, many of which contradict each other, and are worth the same.
func someLoans(random *rand.Rand, loans int) []api.Loan {
	things, worth, last := 1+random.IntN(3), 1+random.IntN(8), 3+random.IntN(20)
	var l []api.Loan
	for range random.IntN(loans + 1) {
		days := narrow(random, span(0, last))
		l = append(l, loan(random.IntN(things), days.Lo, days.Hi, random.IntN(worth)))
	}
	return l
}

// someSeason returns a season with at most so many things of its sorts, gatherings and guests.
func someSeason(random *rand.Rand, things, gatherings, guests int) api.Season {
	var s api.Season
	for range 1 + random.IntN(2) {
		s.Sorts = append(s.Sorts, 1+random.IntN(things))
	}
	most := 1 + random.IntN(guests)
	for range random.IntN(gatherings + 1) {
		s.Gatherings = append(s.Gatherings, random.Perm(guests)[:1+random.IntN(most)])
	}
	return s
}

// seasons returns so many seasons as someSeason does.
func seasons(seed uint64, times, things, gatherings, guests int) []api.Season {
	random := rand.New(rand.NewPCG(seed, 9))
	var l []api.Season
	for range times {
		l = append(l, someSeason(random, things, gatherings, guests))
	}
	return l
}

// combinations returns how many combinations a season has.
func combinations(s api.Season) int {
	count := 1
	for _, things := range s.Sorts {
		count *= things
	}
	return count
}

// upTo returns the numbers from 0 on, below one.
func upTo(n int) []int {
	var l []int
	for i := range n {
		l = append(l, i)
	}
	return l
}
