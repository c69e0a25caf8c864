package chart_test

import (
	"fmt"

	"aloeswood/chart"
)

// The example of README.md.
func Example() {
	// The first packet is like the fourth one, and the second one like the third one.
	p, e := chart.Of([]int{7, 3, 3, 7})
	word, _ := chart.Spell(p)
	text, _ := chart.Draw(p)
	fmt.Println(p, word, e)
	fmt.Print(text)
	back, e := chart.Read(text)
	fmt.Println(back, e)
	_, e = chart.Read("no chart")
	fmt.Println(e)
	// Output:
	// [0 1 1 0] ABBA error 0
	// o-----o
	// | o-o |
	// | | | |
	// [0 1 1 0] error 0
	// error 3
}
