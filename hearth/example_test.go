package hearth_test

import (
	"fmt"

	"aloeswood/api"
	"aloeswood/hearth"
)

// The example of README.md.
func Example() {
	// A coal that is lit burns for 6 or 7 minutes; the other one, which touches it, catches in 2 or 3.
	f := api.Fire{
		Coals: []api.Coal{
			{Catch: api.Span{Lo: 1, Hi: 1}, Burn: api.Span{Lo: 6, Hi: 7}, Heat: api.Span{Lo: 10, Hi: 12}, Lit: true},
			{Catch: api.Span{Lo: 2, Hi: 3}, Burn: api.Span{Lo: 5, Hi: 5}, Heat: api.Span{Lo: 20, Hi: 20}},
		},
		Touches: []api.Touch{{A: 0, B: 1}},
	}
	begins, e := hearth.Begins(f)
	heat, e := hearth.Heat(f, 2)
	fmt.Println(begins, heat, e)
	// Ten ladles of 20 degrees, in a room that is as warm; in each minute a tenth of what is above it is lost.
	k := api.Kettle{Water: 10, Warm: api.Span{Lo: 200, Hi: 200}, Room: 200, Gain: 100, Lose: 100000, Sing: 400, Boil: 950}
	warmths, e := hearth.Run(k, f, nil, 3)
	verdicts, e := hearth.Sings(k, f, nil, 3)
	sure, perhaps, e := hearth.When(k, f, nil, 3)
	fmt.Println(warmths, verdicts, sure, perhaps, e)
	// A ladle of cold water is poured in.
	pours := []api.Pour{{Minute: 2, Ladles: 1, Warm: 100}}
	warmths, e = hearth.Run(k, f, pours, 3)
	choice, e := hearth.Lay(k, f, pours, 4, 6)
	fmt.Println(warmths, choice, e)
	plan, e := hearth.Write(f)
	fmt.Print(plan)
	g, row, e := hearth.Read(plan)
	fmt.Println(len(g.Coals), len(g.Touches), row, e)
	// Output:
	// [{0 0} {2 3}] {10 32} error 0
	// [{200 200} {300 320} {390 428} {471 726}] [2 2 3 1] 3 2 error 0
	// [{200 200} {300 320} {363 399} {437 671}] [0] error 0
	// coal 1 1 6 7 10 12 lit
	// coal 2 3 5 5 20 20 cold
	// touch 0 1
	// end 2
	// 2 1 0 error 0
}
