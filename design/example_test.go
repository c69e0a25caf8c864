package design_test

import (
	"fmt"

	"aloeswood/api"
	"aloeswood/design"
)

// The example of README.md.
func Example() {
	// Two packets of each of two kinds are mixed, and three of the four are drawn.
	s := api.Stock{Counts: []int{2, 2}, Draw: 3}
	ways, e := design.Ways(s)
	fmt.Println(ways, e)
	p, ways, e := design.Guess(s)
	fmt.Println(p, ways, e)
	kinds, sure, e := design.Rest(s, []int{0, 0})
	fmt.Println(kinds, sure, e)
	verdict, most, e := design.Counted(s)
	fmt.Println(verdict == api.Open, most, e)
	// Four packets of two kinds, at most 4 of each, and two are drawn.
	counts, ways, total, e := design.Fairest([]int{4, 4}, 4, 2)
	fmt.Println(counts, ways, total, e)
	// The censer goes round four guests.
	rounds, e := design.Rounds(4)
	fmt.Println(rounds, e)
	place, neighbour, e := design.Fair(4, rounds)
	fmt.Println(place, neighbour, e)
	order, e := design.Turn(4, rounds[:3])
	fmt.Println(order, e)
	// Output:
	// 24 error 0
	// [0 0 1] 8 error 0
	// [1] 1 error 0
	// true 1 error 0
	// [1 3] 6 12 error 0
	// [[0 1 3 2] [1 2 0 3] [2 3 1 0] [3 0 2 1]] error 0
	// 0 0 error 0
	// [3 0 2 1] error 0
}
