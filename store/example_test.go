package store_test

import (
	"fmt"

	"aloeswood/api"
	"aloeswood/store"
)

// The example of README.md.
func Example() {
	// A bowl that the owner 0 made: two links are known, and which of them came first follows from them.
	c := api.Chain{Maker: 0, Made: api.Span{Lo: 10, Hi: 20}, Links: []api.Link{
		{From: 1, To: 2, Day: api.Span{Lo: 30, Hi: 40}}, {From: 0, To: 1, Day: api.Span{Lo: 15, Hi: 35}},
	}}
	orders, e := store.Orders(c)
	fmt.Println(orders, e)
	holders, e := store.Holders(c, 32)
	owned, e := store.Owned(c, 2, 40)
	fmt.Println(holders, owned, e)
	// It came back to the owner 0 on the day 33.
	c, e = store.Add(c, api.Link{From: 2, To: 0, Day: api.Span{Lo: 33, Hi: 33}})
	made, links, e := store.Days(c)
	fmt.Println(made, links, e)
	_, e = store.Add(c, api.Link{From: 1, To: 0, Day: api.Span{Lo: 5, Hi: 9}})
	fmt.Println(e)
	box, e := store.Write(c)
	fmt.Print(box)
	again, row, e := store.Read(box)
	fmt.Println(len(again.Links), row, e)
	// Two of these loans are of the thing 1, and of the day 5.
	loans, worth, e := store.Lend([]api.Loan{
		{Thing: 1, From: 1, To: 5, Worth: 3}, {Thing: 1, From: 5, To: 9, Worth: 4}, {Thing: 2, From: 1, To: 9, Worth: 2},
	})
	fmt.Println(loans, worth, e)
	// Two bowls and a kettle, three gatherings of two guests each.
	s := api.Season{Sorts: []int{2, 1}, Gatherings: [][]int{{0, 1}, {1, 2}, {0, 2}}}
	plan, e := store.Plan(s)
	fewest, many, e := store.Fewest(s)
	fmt.Println(plan, fewest, many, e)
	gathering, guest, many, e := store.Repeats(s, fewest)
	things, e := store.Combination(s, fewest[gathering])
	fmt.Println(gathering, guest, many, things, e)
	// Output:
	// [[1 0]] error 0
	// [0 1 2] 1 error 0
	// {10 20} [{30 32} {15 31} {33 33}] error 0
	// error 12
	// made 0 10 20
	// link 1 2 30 40
	// link 0 1 15 35
	// link 2 0 33 33
	// end 3
	// 3 0 error 0
	// [1 2] 6 error 0
	// [0 1] [0 0 1] 1 error 0
	// 1 1 1 [0 0] error 0
}
