package know_test

import (
	"fmt"

	"aloeswood/api"
	"aloeswood/game"
	"aloeswood/know"
)

// The example of README.md.
func Example() {
	// Two packets of a and one of b are mixed, and two of the three are passed.
	g, _, e := game.Read("wood a 1\nwood b 2\nmix 0 0 2\nmix 0 1 1\npass 0 2\n")
	// A nose that takes a for b in 3 of ten cases, and b for a in 2, smelled b at the censer 0.
	nose := api.Nose{Take: [][]int{{7, 3}, {2, 8}}}
	m := api.Mind{Game: g, Noses: []api.Nose{nose}, Smells: []api.Smell{{Nose: 0, Censer: 0, Wood: 1}}}
	left, weights, e := know.Left(m)
	fmt.Println(left, weights, e)
	same := api.Ask{Kind: api.AskSame}
	answer, sum, of, e := know.Best(m, same, api.PointWhole)
	fmt.Println(answer, sum, of, e)
	// It is told that the censer 1 is b, too: then the censer 0 is not.
	m.Facts = []api.Fact{{Kind: api.FactIs, A: 1, B: 1}}
	sure, e := know.Sure(m)
	fmt.Println(sure, e)
	answer, is, e := know.Decided(m, same)
	fmt.Println(answer, is, e)
	m, e = know.Cut(m, 1)
	fmt.Println(len(m.Smells), len(m.Facts), e)
	sum, of, e = know.Skill(g, nose, same, api.PointWhole)
	fmt.Println(sum, of, e)
	// Output:
	// [[0 0] [0 1] [1 0]] [6 6 16] error 0
	// [0 1] 22 28 error 0
	// [[1 2] [2 1]] error 0
	// [0 1] true error 0
	// 1 0 error 0
	// 442 600 error 0
}
