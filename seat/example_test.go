package seat_test

import (
	"fmt"

	"aloeswood/api"
	"aloeswood/seat"
)

// The example of README.md.
func Example() {
	// Nobody should sit before anyone with a greater rank, cid must sit before bob, and ann should sit beside bob.
	p := api.Party{
		Guests: []api.Guest{
			{Name: "ann", Rank: 3, Honour: 5}, {Name: "bob", Rank: 1, Honour: 4, Never: 1}, {Name: "cid", Rank: 2, Honour: 2, Maybe: 2},
		},
		Rules: []api.Rule{
			{Kind: api.RuleRank, Weight: 10}, {Kind: api.RuleBefore, A: 2, B: 1}, {Kind: api.RuleBeside, A: 0, B: 1, Weight: 4},
		},
	}
	count, e := seat.Count(p)
	order, price, e := seat.Best(p)
	verdicts, e := seat.Sure(p)
	fmt.Println(count, order, price, verdicts, e)
	broken, price, e := seat.Price(p, []int{1, 0, 2})
	fmt.Println(broken, price, e)
	// Now bob must sit in the first seat as well.
	p.Rules = append(p.Rules, api.Rule{Kind: api.RuleFirst, A: 1})
	rules, e := seat.Conflict(p)
	_, _, f := seat.Best(p)
	fmt.Println(rules, e, f)
	// Two seats, and ann and bob must not meet.
	list, honour, e := seat.Invite(p.Guests, []api.Bond{{Kind: api.BondFeud, A: 0, B: 1}}, 2)
	fmt.Println(list, honour, e)
	// Two turns; everybody surely can eat one dish of the menu at least.
	dishes := []api.Dish{{Turn: 0, Parts: 3, Cost: 5}, {Turn: 0, Parts: 4, Cost: 9}, {Turn: 1, Parts: 1, Cost: 2}, {Turn: 1, Parts: 4, Cost: 6}}
	eats, e := seat.Eats(p.Guests[2], dishes[0])
	menu, cost, e := seat.Menu(p.Guests, dishes, 2, 1)
	fmt.Println(eats, menu, cost, e)
	text, e := seat.Write(p)
	fmt.Print(text)
	q, row, e := seat.Read(text)
	fmt.Println(len(q.Guests), len(q.Rules), row, e)
	// Output:
	// 3 [0 2 1] 4 [[2 3 3] [3 2 2] [3 1 2]] error 0
	// [0 1] 10 error 0
	// [1 3] error 0 error 12
	// [0 2] 7 error 0
	// 3 [0 3] 11 error 0
	// guest ann 3 5 0 0
	// guest bob 1 4 1 0
	// guest cid 2 2 0 2
	// rule 6 0 0 10
	// rule 1 2 1 0
	// rule 2 0 1 4
	// rule 4 1 0 0
	// 3 4 0 error 0
}
