package game_test

import (
	"fmt"

	"aloeswood/api"
	"aloeswood/game"
)

// The example of README.md.
func Example() {
	// The wood a is tried; then two packets of a and one of b are mixed, and two of the three are passed.
	g, _, e := game.Read("wood a 1\nwood b 2\ntrial 0\nmix 0 0 2\nmix 0 1 1\npass 0 2\n")
	courses, ways, _ := game.Courses(g)
	fmt.Println(courses, ways, e)
	course, _ := game.Play(g, []int{2, 0})
	due, e := game.Due(g, api.Ask{Kind: api.AskNew}, course)
	fmt.Println(course, due, e)
	answers, ways, e := game.Answers(g, api.Ask{Kind: api.AskSame})
	fmt.Println(answers, ways, e)
	_, row, e := game.Read("wood a 1\npass 0\n")
	fmt.Println(row, e)
	// Output:
	// [[0 0] [0 1] [1 0]] [2 2 2] error 0
	// [1 0] [0] error 0
	// [[0 0] [0 1]] [2 4] error 0
	// 2 error 3
}
