package score_test

import (
	"fmt"

	"aloeswood/api"
	"aloeswood/score"
)

// The example of README.md.
func Example() {
	// A table of 2 packets and 2 guests, at which the first guest writes 3 for the first packet.
	t := api.Table{Packets: 2, State: api.TableOpen, Answers: [][]int{{-1, -1}, {-1, -1}}}
	write := api.Deed{Kind: api.DeedWrite, Guest: 0, Packet: 0, Number: 3}
	t, returned, e := score.Run(t, []api.Deed{write, {Kind: api.DeedPass}, write, {Kind: api.DeedPause}})
	fmt.Println(t.Answers, returned, e)
	text, e := score.Save(t)
	fmt.Print(text)
	t, row, e := score.Load(text)
	fmt.Println(row, e)
	t, e = score.Do(t, api.Deed{Kind: api.DeedResume})
	fmt.Println(t.State == api.TableOpen, e)
	// The packets 0 and 2 are the same: a point for each packet that is right, two for each pair, ten if all is right.
	s := api.Scoring{Packet: 1, Pair: 2, Whole: 10, Keys: []int{api.KeyPoints}}
	scores, places, e := score.Rank(s, []int{0, 1, 0}, [][]int{{5, 5, 4}, {3, 8, 3}})
	fmt.Println(scores[0].Points, scores[1].Points, places, e)
	// Output:
	// [[3 -1] [-1 -1]] [error 13 error 0 error 0 error 0] error 0
	// table 2 1 paused
	// guest 3 -
	// guest - -
	// end 2
	// 0 error 0
	// true error 0
	// 3 19 [2 1] error 0
}
