package rite_test

import (
	"fmt"

	"aloeswood/api"
	"aloeswood/rite"
)

// The example of README.md.
func Example() {
	// The host is in the cell 0, with a bowl that has to be clean in the end, and with a clean cloth; a guest watches from the cell 1.
	r := api.Rite{Wide: 2, Deep: 1,
		People: []api.Person{{Role: api.RoleHost, Cell: 0}, {Role: api.RoleGuest, Cell: 1}},
		Things: []api.Thing{{Want: api.StateClean}, {State: api.StateClean, Want: api.StateClean, Cloth: true}},
		Seen:   []int{1},
		Lapses: []int{api.LapseSkip, api.LapseHand, api.LapseLate},
		Acts: []api.Act{
			{At: 0, Kind: api.ActTake, Hand: 0, Thing: 0}, {At: 1, Kind: api.ActTake, Hand: 1, Thing: 1},
			{At: 2, Kind: api.ActWipe, Hand: 1}, {At: 3, Kind: api.ActLay, Hand: 0}, {At: 4, Kind: api.ActLay, Hand: 1},
		}}
	end, at, e := rite.Run(r)
	fmt.Println(end.Things, at, e)
	mend, e := rite.Mend(r, 0, api.LapseHand)
	fmt.Println(len(mend), mend[0].Kind == api.ActLay, mend[1].Kind == api.ActTake, e)
	whole, e := rite.Mended(r, 0, api.LapseHand, mend)
	fmt.Println(len(whole.Acts), whole.Acts[6].At, e)
	act, kind, e := rite.Firm(r)
	fmt.Println(act, kind, e)
	r.Seen = []int{0, 1}
	act, kind, e = rite.Firm(r)
	fmt.Println(act, kind == api.LapseSkip, e)
	// Output:
	// [{0 1} {0 1}] -1 error 0
	// 2 true true error 0
	// 7 6 error 0
	// -1 0 error 0
	// 0 true error 0
}
