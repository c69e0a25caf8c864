package seat_test

import (
	"math/rand/v2"
	"slices"
	"testing"

	"aloeswood/api"
	"aloeswood/design"
	"aloeswood/seat"
)

// found returns what Best says, and whether there is such an order.
func found(t *testing.T, p api.Party) (order []int, price int, is bool) {
	t.Helper()
	order, price, e := seat.Best(p)
	if e != api.OK && e != api.ErrClash {
		t.Fatal("unexpected", e, p)
	}
	return order, price, e == api.OK
}

// P8.1, P8.7: what Price says of each order is what its rules ask, and Count counts those in which it names no rule that must be kept.
func TestAllOrders(t *testing.T) {
	kept := 0
	for _, p := range append(parties(1, 300, 6, 8), parties(2, 6, 7, 12)...) {
		count := 0
		for _, order := range allOrders(len(p.Guests)) {
			broken, price := priceOf(t, p, order)
			wantBroken, wantPrice := brokenBy(p, order)
			if !slices.Equal(broken, wantBroken) || price != wantPrice {
				t.Fatal(p, order, broken, price, wantBroken, wantPrice)
			}
			if !slices.ContainsFunc(broken, func(i int) bool { return p.Rules[i].Weight == 0 }) {
				count++
			}
		}
		if got := must[int](t)(seat.Count(p)); got != count || got != len(allowedOf(p)) {
			t.Fatal(p, got, count)
		}
		if count > 0 {
			kept++
		}
	}
	if kept < 100 {
		t.Error(kept)
	}
}

// P8.2, P8.8: the best order is the first one of the cheapest ones that are allowed.
func TestBestOfAllOrders(t *testing.T) {
	priced := map[bool]int{}
	for _, p := range append(parties(3, 500, 6, 6), parties(4, 10, 7, 12)...) {
		order, price, is := found(t, p)
		orders := allowedOf(p)
		want, wantPrice := bestOf(p, orders)
		if is != (len(orders) > 0) || !slices.Equal(order, want) || price != wantPrice {
			t.Fatal(p, order, price, is, want, wantPrice)
		}
		if is {
			priced[price > 0]++
		}
	}
	if priced[true] < 50 || priced[false] < 50 {
		t.Error(priced)
	}
}

// P8.2, P8.9: in each allowed order what is sure or never is so, and for each open one there are both.
func TestSureOfAllOrders(t *testing.T) {
	said := map[int]int{}
	for _, p := range append(parties(5, 400, 6, 6), parties(6, 10, 7, 6)...) {
		verdicts, e := seat.Sure(p)
		orders := allowedOf(p)
		if len(orders) == 0 {
			if e != api.ErrClash || len(verdicts) > 0 {
				t.Fatal(p, verdicts, e)
			}
			continue
		}
		if want := sureOf(p, orders); e != api.OK || !equal(verdicts, want) {
			t.Fatal(p, verdicts, want, e)
		}
		for _, l := range verdicts {
			for _, verdict := range l {
				said[verdict]++
			}
		}
	}
	for _, verdict := range []int{api.Sure, api.Never, api.Open} {
		if said[verdict] < 200 {
			t.Error(said)
		}
	}
}

// P8.3, P8.10: no order keeps all rules of a conflict, without any one of them one keeps the others, and no conflict comes before it.
func TestConflictsOfAllRules(t *testing.T) {
	sizes := map[int]int{}
	for _, p := range append(parties(7, 800, 5, 8), parties(8, 400, 6, 9)...) {
		// Most of the rules must be kept, so that some exclude each other.
		for i := range p.Rules {
			if i%4 > 0 {
				p.Rules[i].Weight = 0
			}
		}
		rules, e := seat.Conflict(p)
		sizes[len(rules)]++
		if len(allowedOf(p)) > 0 {
			if e != api.ErrMissing || len(rules) > 0 {
				t.Fatal(p, rules, e)
			}
			continue
		}
		if e != api.OK || anyKeeps(p, rules) {
			t.Fatal(p, rules, e)
		}
		for i := range rules {
			if !anyKeeps(p, slices.Delete(slices.Clone(rules), i, i+1)) {
				t.Fatal(p, rules, i)
			}
		}
		if len(p.Guests) > 4 && len(strict(p)) > 6 {
			continue
		}
		if want, is := conflictOf(p); !is || !slices.Equal(rules, want) {
			t.Fatal(p, rules, want)
		}
	}
	for size := range 4 {
		if sizes[size] < 10 {
			t.Error(sizes)
		}
	}
}

// P8.11: with a rule more that must be kept there are no more allowed orders, and the best one has no lesser price.
func TestOneRuleMore(t *testing.T) {
	random := rand.New(rand.NewPCG(9, 8))
	fewer, dearer := 0, 0
	for _, p := range parties(10, 1200, 7, 6) {
		more := copied(p)
		r := someRule(random, len(p.Guests))
		r.Weight = 0
		more.Rules = slices.Insert(more.Rules, random.IntN(len(p.Rules)+1), r)
		count, now := must[int](t)(seat.Count(p)), must[int](t)(seat.Count(more))
		_, price, is := found(t, p)
		_, least, still := found(t, more)
		if now > count || still && (!is || least < price) {
			t.Fatal(p, r, count, now, price, least)
		}
		if now < count {
			fewer++
		}
		if still && least > price {
			dearer++
		}
	}
	if fewer < 100 || dearer < 50 {
		t.Error(fewer, dearer)
	}
}

// backwards returns a party that asks the same of the orders that are read from the last seat on.
func backwards(p api.Party) api.Party {
	other := copied(p)
	for i := range other.Guests {
		other.Guests[i].Rank = api.MaxGrade - p.Guests[i].Rank
	}
	for i, r := range p.Rules {
		switch r.Kind {
		case api.RuleBefore:
			other.Rules[i].A, other.Rules[i].B = r.B, r.A
		case api.RuleFirst:
			other.Rules[i].Kind = api.RuleLast
		case api.RuleLast:
			other.Rules[i].Kind = api.RuleFirst
		}
	}
	return other
}

// P8.12: if all orders are read the other way round, there are as many allowed ones, and the least price is the same.
func TestTheOtherWayRound(t *testing.T) {
	some := 0
	for _, p := range parties(11, 600, 7, 6) {
		other := backwards(p)
		count, now := must[int](t)(seat.Count(p)), must[int](t)(seat.Count(other))
		order, price, is := found(t, p)
		_, least, still := found(t, other)
		rules, _ := seat.Conflict(p)
		if others, _ := seat.Conflict(other); count != now || price != least || is != still || !slices.Equal(rules, others) {
			t.Fatal(p, count, now, price, least, rules, others)
		}
		if !is {
			continue
		}
		some++
		broken, _ := priceOf(t, p, order)
		slices.Reverse(order)
		if others, same := priceOf(t, other, order); !slices.Equal(broken, others) || same != price {
			t.Fatal(p, order, broken, others)
		}
		verdicts, others := must[[][]int](t)(seat.Sure(p)), must[[][]int](t)(seat.Sure(other))
		for a := range p.Guests {
			for b := range p.Guests {
				if verdicts[a][b] != others[b][a] {
					t.Fatal(p, verdicts, others)
				}
			}
		}
	}
	if some < 100 {
		t.Error(some)
	}
}

// renamed returns a party whose guests get other numbers: the guest i gets the number numbers[i].
func renamed(p api.Party, numbers []int) api.Party {
	other := copied(p)
	for i, number := range numbers {
		other.Guests[number] = p.Guests[i]
	}
	for i, r := range p.Rules {
		switch r.Kind {
		case api.RuleBefore, api.RuleBeside, api.RuleApart:
			other.Rules[i].A, other.Rules[i].B = numbers[r.A], numbers[r.B]
		case api.RuleFirst, api.RuleLast:
			other.Rules[i].A = numbers[r.A]
		}
	}
	return other
}

// P8.13: if guests get other numbers, Count, the least price and the number of rules in a conflict stay.
func TestNamedAnew(t *testing.T) {
	random := rand.New(rand.NewPCG(12, 8))
	conflicts := 0
	for _, p := range parties(13, 600, 7, 8) {
		numbers := random.Perm(len(p.Guests))
		other := renamed(p, numbers)
		_, price, is := found(t, p)
		_, least, still := found(t, other)
		rules, e := seat.Conflict(p)
		others, f := seat.Conflict(other)
		if must[int](t)(seat.Count(p)) != must[int](t)(seat.Count(other)) || price != least || is != still || e != f || len(rules) != len(others) {
			t.Fatal(p, numbers, price, least, rules, others)
		}
		if !is {
			conflicts++
			continue
		}
		verdicts, anew := must[[][]int](t)(seat.Sure(p)), must[[][]int](t)(seat.Sure(other))
		for a := range p.Guests {
			for b := range p.Guests {
				if verdicts[a][b] != anew[numbers[a]][numbers[b]] {
					t.Fatal(p, numbers, verdicts, anew)
				}
			}
		}
	}
	if conflicts < 50 {
		t.Error(conflicts)
	}
}

// P8.4, P8.14: the invited guests keep all bonds, and all lists are looked at.
func TestAllInvitedGuests(t *testing.T) {
	random := rand.New(rand.NewPCG(14, 8))
	sizes := map[int]int{}
	for range 1000 {
		l := someGuests(random, random.IntN(9))
		bonds := someBonds(random, len(l))
		seats := random.IntN(api.MaxSeats + 1)
		list, honour, e := seat.Invite(l, bonds, seats)
		want, wantHonour := invitedOf(l, bonds, seats)
		if e != api.OK || !slices.Equal(list, want) || honour != wantHonour {
			t.Fatal(l, bonds, seats, list, honour, e, want, wantHonour)
		}
		if !bound(list, bonds) || len(list) > seats || honourOf(l, list) != honour {
			t.Fatal(l, bonds, seats, list, honour)
		}
		sizes[len(list)]++
	}
	for size := range 5 {
		if sizes[size] < 20 {
			t.Error(sizes)
		}
	}
}

// P8.5: of each dish a guest can eat just what its parts let it.
func TestAllPartsOfDishes(t *testing.T) {
	for never := range api.MaxParts + 1 {
		for maybe := 0; maybe <= api.MaxParts; maybe += 5 {
			for parts := never % 3; parts <= api.MaxParts; parts += 3 {
				g, d := api.Guest{Name: "eve", Never: never, Maybe: maybe}, api.Dish{Parts: parts}
				if verdict := must[int](t)(seat.Eats(g, d)); verdict != eaten(g, d) {
					t.Fatal(g, d, verdict)
				}
			}
		}
	}
}

// P8.5, P8.15: everybody surely can eat enough of a menu, and all menus are looked at; with fewer dishes needed none costs more.
func TestAllMenus(t *testing.T) {
	random := rand.New(rand.NewPCG(15, 8))
	some, none, dearer := 0, 0, 0
	for range 3000 {
		l := someGuests(random, random.IntN(4))
		turns := 1 + random.IntN(api.MaxTurns)
		dishes := someDishes(random, api.MaxDishes, turns+(api.MaxTurns-turns)/2)
		least := 0
		for need := range turns + 1 {
			menu, cost, e := seat.Menu(l, dishes, turns, need)
			want, wantCost, is := menuOf(l, dishes, turns, need)
			if !slices.Equal(menu, want) || cost != wantCost || is != (e == api.OK) || !is && e != api.ErrMissing {
				t.Fatal(l, dishes, turns, need, menu, cost, e, want, wantCost, is)
			}
			if !is {
				// With more needed there is no menu either.
				none++
				least = api.MaxTurns*api.MaxCost + 1
				continue
			}
			if cost < least || !feeds(l, dishes, menu, need) {
				t.Fatal(l, dishes, turns, need, menu, cost, least)
			}
			if need > 0 && cost > least {
				dearer++
			}
			least = cost
			some++
		}
	}
	if some < 1000 || none < 1000 || dearer < 200 {
		t.Error(some, none, dearer)
	}
}

// P8.16: a party is read from its text, and what is read is written as it was.
func TestTextsOfParties(t *testing.T) {
	random := rand.New(rand.NewPCG(16, 8))
	for _, p := range parties(17, 3000, 7, 12) {
		for i := range p.Guests {
			if g := &p.Guests[i]; random.IntN(2) == 0 {
				g.Rank, g.Honour, g.Never, g.Maybe = random.IntN(10), random.IntN(1001), random.IntN(256), random.IntN(256)
			}
		}
		for i := range p.Rules {
			if p.Rules[i].Weight > 2 {
				p.Rules[i].Weight = random.IntN(1001)
			}
		}
		text := must[string](t)(seat.Write(p))
		back, row, e := seat.Read(text)
		if !same(back, p) || row != 0 || e != api.OK {
			t.Fatal(p, text, back, row, e)
		}
		if again := must[string](t)(seat.Write(back)); again != text {
			t.Fatal(text, again)
		}
	}
}

// T6: in the orders of a fair round each guest sits first, last, and beside each other guest equally often.
func TestSeatsOfFairRounds(t *testing.T) {
	for n := 1; n <= api.MaxSeats; n++ {
		orders := must[[][]int](t)(design.Rounds(n))
		// keeping returns how many of the orders keep a rule.
		keeping := func(r api.Rule) int {
			count := 0
			for _, order := range orders {
				if broken, _ := priceOf(t, party(n, r), order); len(broken) == 0 {
					count++
				}
			}
			return count
		}
		for a := range n {
			for _, kind := range []int{api.RuleFirst, api.RuleLast} {
				if count := keeping(keep(kind, a, 0)); count != len(orders)/n || len(orders)%n != 0 {
					t.Error(n, kind, a, count)
				}
			}
			for b := range n {
				if a == b {
					continue
				}
				if count := keeping(keep(api.RuleBeside, a, b)); count == 0 || count != keeping(keep(api.RuleBeside, 0, 1)) {
					t.Error(n, a, b, count)
				}
			}
		}
	}
}
