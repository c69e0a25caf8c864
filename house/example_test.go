package house_test

import (
	"fmt"

	"aloeswood/api"
	"aloeswood/house"
)

// The example of README.md.
func Example() {
	h := api.House{
		// The variant moon is shown from the grade 2 on; deep is a secret one, from the grade 4 on.
		Variants: []api.Variant{{Name: "moon", Grade: 2}, {Name: "deep", Grade: 4, Secret: true}},
		// The member ann has no teacher, and holds both; bob is a pupil of ann.
		Members: []api.Member{{Name: "ann", Teacher: -1, Grade: 6, Holds: 3}, {Name: "bob", Grade: 4, Holds: 1}},
		// Two packets of a and one of b are mixed, and two of the three are passed.
		Game: api.Game{
			Woods: []api.Wood{{Name: "a", Family: 1}, {Name: "b", Family: 2}},
			Deals: []api.Deal{{Kind: api.DealMix, Count: 2}, {Kind: api.DealMix, Wood: 1, Count: 1}, {Kind: api.DealPass, Count: 2}},
		},
		Scoring: api.Scoring{Packet: 1, Whole: 10, Keys: []int{api.KeyPoints}},
		Rite:    api.Rite{Wide: 1, Deep: 1, People: []api.Person{{Role: api.RoleHost}}},
		Kettle:  api.Kettle{Water: 1, Warm: api.Span{Lo: 500, Hi: 500}, Room: 500, Sing: 400, Boil: 900},
		Numbers: []int{2, 0},
	}
	sheet := "day 9\njoin cid ann\nraise cid\nshow bob deep\nhold deep\nline cid\n" +
		"gather cid bob\npass\nwrite bob 0 5\nwrite bob 1 6\npause\nresume\npass\nwrite bob 1 6\nclose\nopen\nsing 5\nrite 3\n"
	replies, e := house.Run(h, sheet)
	fmt.Print(replies)
	report, e := house.Report(h, sheet)
	fmt.Print(report)
	hall, e := house.Keep(h, sheet)
	fmt.Println(hall.Day, len(hall.Members), hall.Records, e)
	// Output:
	// ok
	// ok
	// ok
	// ok
	// ann bob
	// cid ann
	// seats bob cid
	// ok
	// ok
	// error 13
	// ok
	// ok
	// ok
	// ok
	// ok
	// points bob 12 1 cid 0 2
	// sure
	// firm
	// day 9
	// member ann - 6 moon deep
	// member bob ann 4 moon deep
	// member cid ann 1
	// game 9 bob 12 1 cid 0 2
	// end
	// 9 3 [{9 [1 2] [12 0] [1 2]}] error 0
}
