package seat_test

import (
	"math/rand/v2"
	"slices"
	"testing"

	"aloeswood/api"
	"aloeswood/seat"
)

// rule returns a rule, keep one that must be kept.
func rule(kind, a, b, weight int) api.Rule {
	return api.Rule{Kind: kind, A: a, B: b, Weight: weight}
}

func keep(kind, a, b int) api.Rule { return rule(kind, a, b, 0) }

// partyP is the party P of the chapter.
func partyP() api.Party {
	return api.Party{
		Guests: []api.Guest{{Name: "ann", Rank: 3, Honour: 5}, {Name: "bob", Rank: 1, Honour: 5}, {Name: "cid", Rank: 2, Honour: 5}},
		Rules:  []api.Rule{rule(api.RuleRank, 0, 0, 10), keep(api.RuleFirst, 1, 0), rule(api.RuleBeside, 0, 2, 4)},
	}
}

// partyWith returns the party P with a change.
func partyWith(change func(p *api.Party)) api.Party {
	p := partyP()
	change(&p)
	return p
}

// name returns the name of a guest that has this number.
func name(number int) string { return string([]byte{'a' + byte(number/26), 'a' + byte(number%26)}) }

// plain returns so many guests with names alone, party a party of them.
func plain(guests int) []api.Guest {
	var l []api.Guest
	for i := range guests {
		l = append(l, api.Guest{Name: name(i)})
	}
	return l
}

func party(guests int, rules ...api.Rule) api.Party {
	return api.Party{Guests: plain(guests), Rules: rules}
}

// ranked returns a party of guests of these ranks.
func ranked(ranks []int, rules ...api.Rule) api.Party {
	p := party(len(ranks), rules...)
	for i, rank := range ranks {
		p.Guests[i].Rank = rank
	}
	return p
}

// must fails the test unless there was no error.
func must[T any](t *testing.T) func(v T, e api.Errno) T {
	return func(v T, e api.Errno) T {
		t.Helper()
		if e != api.OK {
			t.Fatal("unexpected", e)
		}
		return v
	}
}

// priceOf returns what Price says of an order, of which there is no error.
func priceOf(t *testing.T, p api.Party, order []int) (broken []int, price int) {
	t.Helper()
	broken, price, e := seat.Price(p, order)
	if e != api.OK {
		t.Fatal("unexpected", e, p, order)
	}
	return broken, price
}

// equal tells whether two lists of lists are equal.
func equal(a, b [][]int) bool { return slices.EqualFunc(a, b, slices.Equal[[]int]) }

// same tells whether two parties are equal.
func same(a, b api.Party) bool {
	return slices.Equal(a.Guests, b.Guests) && slices.Equal(a.Rules, b.Rules)
}

// isZero tells whether a party is the zero value.
func isZero(p api.Party) bool { return same(p, api.Party{}) }

// copied returns a party that is equal, and apart.
func copied(p api.Party) api.Party {
	return api.Party{Guests: slices.Clone(p.Guests), Rules: slices.Clone(p.Rules)}
}

// someGuests returns so many guests, many of whom have the same ranks and honours.
func someGuests(random *rand.Rand, guests int) []api.Guest {
	l := plain(guests)
	parts := []int{0, 0, 0, 1, 2, 4, 3, 255}
	for i := range l {
		l[i].Rank, l[i].Honour = random.IntN(4), random.IntN(6)
		l[i].Never, l[i].Maybe = parts[random.IntN(len(parts))], parts[random.IntN(len(parts))]
	}
	return l
}

// someRule returns a rule for so many guests, which often must be kept.
func someRule(random *rand.Rand, guests int) api.Rule {
	r := api.Rule{Kind: 1 + random.IntN(6), Weight: random.IntN(2) * random.IntN(5)}
	two := random.Perm(guests)
	switch r.Kind {
	case api.RuleBefore, api.RuleBeside, api.RuleApart:
		if guests == 1 {
			return keep(api.RuleRank, 0, 0)
		}
		r.A, r.B = two[0], two[1]
	case api.RuleFirst, api.RuleLast:
		r.A = two[0]
	}
	return r
}

// someParty returns a party of at least one and at most so many guests, with at most so many rules.
func someParty(random *rand.Rand, guests, rules int) api.Party {
	p := api.Party{Guests: someGuests(random, 1+random.IntN(guests))}
	for range random.IntN(rules + 1) {
		p.Rules = append(p.Rules, someRule(random, len(p.Guests)))
	}
	return p
}

// parties returns so many parties of at most so many guests and rules.
func parties(seed uint64, times, guests, rules int) []api.Party {
	random := rand.New(rand.NewPCG(seed, 8))
	var l []api.Party
	for range times {
		l = append(l, someParty(random, guests, rules))
	}
	return l
}

// someBonds returns bonds between so many guests.
func someBonds(random *rand.Rand, guests int) []api.Bond {
	var l []api.Bond
	for range random.IntN(min(2*guests, api.MaxBonds) + 1) {
		if two := random.Perm(guests); guests > 1 {
			l = append(l, api.Bond{Kind: 1 + random.IntN(2), A: two[0], B: two[1]})
		}
	}
	return l
}

// someDishes returns at most so many dishes, of some of the first turns.
func someDishes(random *rand.Rand, dishes, turns int) []api.Dish {
	var l []api.Dish
	for range random.IntN(dishes + 1) {
		l = append(l, api.Dish{Turn: random.IntN(turns), Parts: random.IntN(8) & random.IntN(8), Cost: random.IntN(6)})
	}
	return l
}
