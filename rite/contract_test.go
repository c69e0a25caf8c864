package rite_test

import (
	"math"
	"slices"
	"testing"

	"aloeswood/api"
	"aloeswood/rite"
)

// P6.1

// fault is a rite that is not valid, and its first error.
type fault struct {
	r api.Rite
	e api.Errno
}

// faults are rites that are not valid, but for their acts.
func faults() map[string]fault {
	of := func(e api.Errno, change func(r *api.Rite)) fault { return fault{changed(change), e} }
	thing := func(e api.Errno, t api.Thing) fault {
		return of(e, func(r *api.Rite) { r.Things[1] = t })
	}
	seen := func(e api.Errno, l ...int) fault { return of(e, func(r *api.Rite) { r.Seen = l }) }
	lapses := func(e api.Errno, l ...int) fault { return of(e, func(r *api.Rite) { r.Lapses = l }) }
	return map[string]fault{
		"nothing":                       {api.Rite{}, api.ErrRange},
		"no width":                      of(api.ErrRange, func(r *api.Rite) { r.Wide = 0 }),
		"seven cells wide":              of(api.ErrRange, func(r *api.Rite) { r.Wide = 7 }),
		"the greatest width":            of(api.ErrRange, func(r *api.Rite) { r.Wide, r.Deep = math.MaxInt, math.MaxInt }),
		"no depth":                      of(api.ErrRange, func(r *api.Rite) { r.Deep = 0 }),
		"seven cells deep":              of(api.ErrRange, func(r *api.Rite) { r.Deep = 7 }),
		"both below 0":                  of(api.ErrRange, func(r *api.Rite) { r.Wide, r.Deep = -2, -1 }),
		"no depth, and nobody":          of(api.ErrRange, func(r *api.Rite) { r.Deep, r.People = 0, nil }),
		"nobody":                        of(api.ErrShort, func(r *api.Rite) { r.People = nil }),
		"nobody, and a thing elsewhere": of(api.ErrShort, func(r *api.Rite) { r.People, r.Things[0].Cell = nil, 9 }),
		"five people":                   of(api.ErrFull, func(r *api.Rite) { r.Wide, r.People = 6, people(0, 1, 2, 3, 4) }),
		"five of no role":               of(api.ErrFull, func(r *api.Rite) { r.People = make([]api.Person, 5) }),
		"no role":                       of(api.ErrKind, func(r *api.Rite) { r.People[0].Role = 0 }),
		"a role too much":               of(api.ErrKind, func(r *api.Rite) { r.People[1].Role = 4 }),
		"no role, and no cell":          of(api.ErrKind, func(r *api.Rite) { r.People[1] = api.Person{Role: -1, Cell: 2} }),
		"a cell below 0":                of(api.ErrMissing, func(r *api.Rite) { r.People[0].Cell = -1 }),
		"a cell that is none":           of(api.ErrMissing, func(r *api.Rite) { r.People[1].Cell = 2 }),
		"the first one has no cell, the next one no role": of(api.ErrMissing, func(r *api.Rite) { r.People[0].Cell, r.People[1].Role = 2, 0 }),
		"two in a cell": of(api.ErrClash, func(r *api.Rite) { r.People[0].Cell = 1 }),
		"two in a cell before one without a role":   of(api.ErrClash, func(r *api.Rite) { r.People = append(people(0, 0), api.Person{}) }),
		"two in a cell with one between":            of(api.ErrClash, func(r *api.Rite) { r.Wide, r.People = 4, people(2, 1, 3, 2) }),
		"nine things":                               of(api.ErrFull, func(r *api.Rite) { r.Things = make([]api.Thing, 9) }),
		"nine things elsewhere":                     of(api.ErrFull, func(r *api.Rite) { r.Things = slices.Repeat([]api.Thing{{Cell: 2}}, 9) }),
		"a thing that is nowhere":                   thing(api.ErrMissing, api.Thing{Cell: 2}),
		"a thing below 0":                           thing(api.ErrMissing, api.Thing{Cell: -1}),
		"a home that is nowhere":                    thing(api.ErrMissing, api.Thing{Home: 2}),
		"a home below 0":                            thing(api.ErrMissing, api.Thing{Home: -1}),
		"a home that is nowhere, and a wrong state": thing(api.ErrMissing, api.Thing{Home: 2, State: 16}),
		"a state below 0":                           thing(api.ErrRange, api.Thing{State: -1}),
		"the state 16":                              thing(api.ErrRange, api.Thing{State: 16}),
		"a wish below 0":                            thing(api.ErrRange, api.Thing{Want: -1}),
		"the wish 16":                               thing(api.ErrRange, api.Thing{Want: 16}),
		"the first thing in a wrong state, the next one nowhere": of(api.ErrRange, func(r *api.Rite) { r.Things[0].Want, r.Things[1].Cell = 16, 2 }),
		"a thing in a wrong state, and nowhere seen":             of(api.ErrRange, func(r *api.Rite) { r.Things[0].State, r.Seen = 16, []int{2} }),
		"seen elsewhere":                    seen(api.ErrMissing, 2),
		"seen below 0":                      seen(api.ErrMissing, -1, 0),
		"seen twice":                        seen(api.ErrOrder, 0, 0),
		"seen the other way round":          seen(api.ErrOrder, 1, 0),
		"seen twice, then elsewhere":        seen(api.ErrOrder, 1, 1, 2),
		"seen elsewhere, then twice":        seen(api.ErrMissing, 0, 2, 0),
		"seen elsewhere, and no lapse":      of(api.ErrMissing, func(r *api.Rite) { r.Seen, r.Lapses = []int{0, 1, 2}, []int{0} }),
		"the lapse 0":                       lapses(api.ErrKind, 0),
		"the lapse 4":                       lapses(api.ErrKind, 1, 2, 3, 4),
		"a lapse twice":                     lapses(api.ErrOrder, 1, 1),
		"lapses the other way round":        lapses(api.ErrOrder, 3, 2),
		"a lapse that is none behind order": lapses(api.ErrOrder, 2, 1, 9),
		"very many lapses":                  lapses(api.ErrOrder, slices.Repeat([]int{1}, 100000)...),
		"no lapse, and too many acts":       of(api.ErrKind, func(r *api.Rite) { r.Lapses, r.Acts = []int{0}, make([]api.Act, 41) }),
		"41 acts":                           of(api.ErrFull, func(r *api.Rite) { r.Acts = make([]api.Act, 41) }),
		"41 acts that are valid":            of(api.ErrFull, func(r *api.Rite) { r.Acts = lays(41) }),
	}
}

// lays returns so many acts of the host, minute by minute.
func lays(n int) []api.Act {
	var l []api.Act
	for at := range n {
		l = append(l, lay(at, 0, 0))
	}
	return l
}

// badActs are acts that are not valid in the rite R behind the minute 1, in which the host was busy, with their first errors.
func badActs() map[string]struct {
	a api.Act
	e api.Errno
} {
	type bad = struct {
		a api.Act
		e api.Errno
	}
	return map[string]bad{
		"At below 0":                 {lay(-1, 0, 0), api.ErrRange},
		"At 1001":                    {lay(1001, 0, 0), api.ErrRange},
		"At 1001, of nobody":         {lay(1001, 9, 0), api.ErrRange},
		"At far off":                 {lay(math.MaxInt, 0, 0), api.ErrRange},
		"earlier":                    {lay(0, 0, 0), api.ErrOrder},
		"earlier, of nobody":         {lay(0, 2, 0), api.ErrOrder},
		"of nobody":                  {lay(2, 2, 0), api.ErrMissing},
		"of somebody below 0":        {lay(2, -1, 0), api.ErrMissing},
		"of nobody, and no kind":     {api.Act{At: 1, Who: 2}, api.ErrMissing},
		"in the same minute":         {lay(1, 0, 0), api.ErrClash},
		"no kind in the same minute": {api.Act{At: 1}, api.ErrClash},
		"the kind 0":                 {api.Act{At: 2, Hand: 9}, api.ErrKind},
		"the kind 9":                 {by(2, 0, 9, 9), api.ErrKind},
		"a kind below 0":             {by(2, 0, -1, 0), api.ErrKind},
		"the least kind":             {by(2, 0, math.MinInt, 0), api.ErrKind},

		"a step with a hand":          {api.Act{At: 2, Kind: 1, Hand: 1, Cell: 1}, api.ErrForm},
		"a step with a thing":         {api.Act{At: 2, Kind: 1, Thing: 1, Cell: 1}, api.ErrForm},
		"a step with another one":     {api.Act{At: 2, Kind: 1, Other: 1, Cell: 1}, api.ErrForm},
		"a step with -1":              {api.Act{At: 2, Kind: 1, Hand: -1, Cell: 9}, api.ErrForm},
		"a step to nowhere":           {step(2, 0, 2), api.ErrMissing},
		"a step below 0":              {step(2, 0, -1), api.ErrMissing},
		"a step to nowhere, any rank": {api.Act{At: 2, Kind: 1, Cell: 2, Rank: 10}, api.ErrMissing},

		"a take with a cell":           {api.Act{At: 2, Kind: 2, Cell: 1}, api.ErrForm},
		"a take with another one":      {api.Act{At: 2, Kind: 2, Other: 1}, api.ErrForm},
		"a take with a cell, no hand":  {api.Act{At: 2, Kind: 2, Hand: 2, Cell: 1}, api.ErrForm},
		"a take with no hand":          {take(2, 0, 2, 0), api.ErrRange},
		"a take with a hand below 0":   {take(2, 0, -1, 0), api.ErrRange},
		"a take with no hand of none":  {take(2, 0, 2, 2), api.ErrRange},
		"a take of none":               {take(2, 0, 1, 2), api.ErrMissing},
		"a take of something below 0":  {take(2, 0, 1, -1), api.ErrMissing},
		"a give with a thing":          {api.Act{At: 2, Kind: 4, Thing: 1, Other: 1}, api.ErrForm},
		"a give with a cell":           {api.Act{At: 2, Kind: 4, Cell: 1, Other: 1}, api.ErrForm},
		"a give with no hand":          {give(2, 0, 2, 1), api.ErrRange},
		"a give with no hand, to none": {give(2, 0, -1, 2), api.ErrRange},
		"a give to nobody":             {give(2, 0, 1, 2), api.ErrMissing},
		"a give to somebody below 0":   {give(2, 0, 1, -1), api.ErrMissing},
		"a give to oneself":            {give(2, 0, 1, 0), api.ErrForm},
		"a give to oneself, no hand":   {give(2, 0, 2, 0), api.ErrRange},

		"no season":                {api.Act{At: 2, Kind: 3, Seasons: -1}, api.ErrRange},
		"the seasons 16":           {api.Act{At: 2, Kind: 3, Seasons: 16}, api.ErrRange},
		"a rank below 0":           {api.Act{At: 2, Kind: 3, Rank: -1}, api.ErrRange},
		"the rank 10":              {api.Act{At: 2, Kind: 3, Rank: 10}, api.ErrRange},
		"the rank 10 of a cell":    {api.Act{At: 2, Kind: 3, Cell: 1, Rank: 10}, api.ErrForm},
		"no season for no hand":    {api.Act{At: 2, Kind: 8, Hand: 3, Seasons: 16}, api.ErrRange},
		"the greatest season":      {api.Act{At: 2, Kind: 3, Seasons: math.MaxInt}, api.ErrRange},
		"the least rank of a step": {api.Act{At: 2, Kind: 1, Cell: 1, Rank: math.MinInt}, api.ErrRange},
	}
}

// refused fails the test unless all functions refuse a rite with this error, and return nothing else. What comes beside the rite is wrong, too.
func refused(t *testing.T, name string, r api.Rite, want api.Errno) {
	t.Helper()
	chosen, a := rite.Choose(r, -1, 10)
	end, at, b := rite.Run(r)
	scenes, c := rite.Scenes(r)
	lapse, d := rite.Lapse(r, -1, 0)
	mend, f := rite.Mend(r, 99, 9)
	whole, g := rite.Mended(r, -1, 0, make([]api.Act, 9))
	act, kind, h := rite.Firm(r)
	if said := []api.Errno{rite.Check(r), a, b, c, d, f, g, h}; !slices.Equal(said, slices.Repeat([]api.Errno{want}, 8)) {
		t.Error(name, said, want)
	}
	if !isNoRite(chosen) || !isEmpty(end) || at != 0 || len(scenes) != 0 || !isNoRite(lapse) || len(mend) != 0 || !isNoRite(whole) || act != 0 || kind != 0 {
		t.Error(name, "not all is zero")
	}
}

func TestRitesThatAreNotValid(t *testing.T) {
	for name, c := range faults() {
		refused(t, name, c.r, c.e)
	}
	for name, c := range badActs() {
		refused(t, name, acting(riteR(), lay(0, 1, 0), lay(1, 0, 0), c.a), c.e)
		// Whatever stands behind it, it is the first one.
		refused(t, name, acting(riteR(), lay(0, 1, 0), lay(1, 0, 0), c.a, api.Act{At: -1}), c.e)
	}
	// The kinds with a hand alone.
	for _, kind := range []int{api.ActLay, api.ActWipe, api.ActPour, api.ActCover, api.ActOpen} {
		for _, a := range []api.Act{{Kind: kind, Thing: 1}, {Kind: kind, Cell: 1}, {Kind: kind, Other: 1}, {Kind: kind, Hand: 2, Other: -1}} {
			refused(t, "a field that is not named", acting(riteR(), a), api.ErrForm)
		}
		refused(t, "no hand", acting(riteR(), by(0, 0, kind, 2)), api.ErrRange)
		refused(t, "a hand below 0", acting(riteR(), by(0, 1, kind, -1)), api.ErrRange)
	}
	refused(t, "earlier than the first one", acting(riteR(), lay(5, 0, 0), lay(4, 1, 0)), api.ErrOrder)
	// Somebody else was busy between.
	refused(t, "twice in a minute", acting(riteR(), lay(0, 0, 0), lay(0, 1, 0), lay(0, 0, 0)), api.ErrClash)
}

func TestRitesThatAreValid(t *testing.T) {
	great := api.Rite{Wide: 6, Deep: 6, People: people(35, 0, 6, 17), Seen: []int{0, 7, 35}, Lapses: []int{1, 3}, Acts: lays(40)}
	for range 8 {
		great.Things = append(great.Things, api.Thing{Cell: 35, Home: 35, State: 15, Want: 15, Cloth: true})
	}
	for i, r := range []api.Rite{
		riteR(), great,
		{Wide: 1, Deep: 1, People: []api.Person{{Role: api.RoleAid}}},
		changed(func(r *api.Rite) { r.Things, r.Seen, r.Lapses, r.Acts = nil, nil, nil, nil }),
		changed(func(r *api.Rite) { r.Seen = []int{0, 1} }),
		acting(riteR(), lay(0, 0, 0), lay(0, 1, 1), lay(1000, 1, 1), lay(1000, 0, 1)),
		acting(riteR(), give(0, 0, 1, 1), give(1, 1, 0, 0), step(2, 0, 1), take(3, 0, 1, 1)),
		acting(riteR(), api.Act{Kind: 3, Seasons: 15, Rank: 9}, api.Act{At: 1, Kind: 3, Seasons: 1}),
	} {
		if e := rite.Check(r); e != api.OK {
			t.Error(i, e)
		}
	}
}

func TestChoose(t *testing.T) {
	r := riteR()
	r.Acts[0].Seasons, r.Acts[1].Seasons, r.Acts[2].Seasons = 5, 8, 15
	r.Acts[2].Rank, r.Acts[3].Rank, r.Acts[4].Rank, r.Acts[4].Seasons = 9, 1, 4, 2
	for _, c := range []struct {
		season, rank int
		acts         []int
	}{
		{0, 0, []int{0}}, {0, 1, []int{0, 3}}, {0, 8, []int{0, 3}}, {0, 9, []int{0, 2, 3}}, {1, 0, nil}, {1, 3, []int{3}}, {1, 4, []int{3, 4}}, {1, 9, []int{2, 3, 4}}, {2, 9, []int{0, 2, 3}}, {3, 0, []int{1}}, {3, 9, []int{1, 2, 3}},
	} {
		want := riteR()
		want.Acts = nil
		for _, i := range c.acts {
			want.Acts = append(want.Acts, riteR().Acts[i])
		}
		if got := must[api.Rite](t)(rite.Choose(r, c.season, c.rank)); !sameRite(got, want) {
			t.Error(c, got)
		}
	}
	for _, c := range [][2]int{{-1, 0}, {4, 0}, {0, -1}, {0, 10}, {math.MinInt, 0}, {math.MaxInt, 9}, {3, math.MaxInt}} {
		if got, e := rite.Choose(r, c[0], c[1]); e != api.ErrRange || !isNoRite(got) {
			t.Error(c, got, e)
		}
	}
}

// P6.2

// ends returns what Run says of a rite: the number of an act, and the error.
func ends(t *testing.T, r api.Rite) (at int, e api.Errno) {
	t.Helper()
	end, at, e := rite.Run(r)
	scenes, f := rite.Scenes(r)
	if e != f || isEmpty(end) != (e != api.OK) || len(scenes) == 0 != (e != api.OK) || at == -1 != (e == api.OK) {
		t.Error(r, end, at, e, scenes, f)
	}
	if e == api.OK && !same(end, scenes[len(scenes)-1]) {
		t.Error(r, end, scenes)
	}
	return at, e
}

func TestTheExamplesOfRun(t *testing.T) {
	r := riteR()
	otherHand := slices.Clone(r.Acts)
	otherHand[2].Hand = 0
	for i, c := range []struct {
		r  api.Rite
		at int
		e  api.Errno
	}{
		{r, -1, api.OK},
		{acting(r, slices.Delete(slices.Clone(r.Acts), 2, 3)...), 4, api.ErrOrder},
		{acting(r, r.Acts[:4]...), 4, api.ErrOrder},
		{acting(r, otherHand...), 2, api.ErrState},
		{acting(r, slices.Insert(slices.Clone(r.Acts), 2, step(1, 1, 0))...), 2, api.ErrState},
		{acting(r), 0, api.ErrOrder},
		{acting(room()), -1, api.OK},
	} {
		if at, e := ends(t, c.r); at != c.at || e != c.e {
			t.Error(i, at, e)
		}
	}
	scenes := must[[]api.Scene](t)(rite.Scenes(r))
	hands := func(left, right int) [][2]int { return [][2]int{{left, right}, {-1, -1}} }
	at := []int{0, 1}
	for i, want := range []api.Scene{
		{People: at, Hands: hands(-1, -1), Things: []api.Spot{{Cell: 0, State: 0}, {Cell: 0, State: 1}}},
		{People: at, Hands: hands(0, -1), Things: []api.Spot{{Cell: -1, State: 0}, {Cell: 0, State: 1}}},
		{People: at, Hands: hands(0, 1), Things: []api.Spot{{Cell: -1, State: 0}, {Cell: -1, State: 1}}},
		{People: at, Hands: hands(0, 1), Things: []api.Spot{{Cell: -1, State: 1}, {Cell: -1, State: 1}}},
		{People: at, Hands: hands(-1, 1), Things: []api.Spot{{Cell: 0, State: 1}, {Cell: -1, State: 1}}},
		{People: at, Hands: hands(-1, -1), Things: []api.Spot{{Cell: 0, State: 1}, {Cell: 0, State: 1}}},
	} {
		if len(scenes) != 6 || !same(scenes[i], want) {
			t.Fatal(i, scenes)
		}
	}
	// Without acts there is the first scene alone; minutes without acts have none.
	if l := must[[]api.Scene](t)(rite.Scenes(room())); len(l) != 1 || !same(l[0], api.Scene{People: []int{0, 1, 5}, Hands: [][2]int{{-1, -1}, {-1, -1}, {-1, -1}}}) {
		t.Error(l)
	}
	if l := must[[]api.Scene](t)(rite.Scenes(acting(room(), step(3, 0, 3), step(900, 0, 4), step(900, 1, 2)))); len(l) != 3 {
		t.Error(l)
	}
}

// When each kind of act is possible: the last act of each list is not.
func TestActsThatAreNotPossible(t *testing.T) {
	bowl, cloth := api.Thing{}, api.Thing{Cloth: true}
	full, covered := api.Thing{State: api.StateFull}, api.Thing{State: api.StateFull | api.StateCovered}
	lid, hot := api.Thing{State: api.StateCovered}, api.Thing{State: api.StateHot | api.StateClean}
	both := func(then ...api.Act) []api.Act { return append([]api.Act{take(0, 0, 0, 0), take(1, 0, 1, 1)}, then...) }
	for name, r := range map[string]api.Rite{
		"a step to where one is":         acting(room(), step(0, 0, 0)),
		"a step across":                  acting(room(), step(0, 0, 4)),
		"a step of two cells":            acting(room(), step(0, 1, 0+2), step(1, 0, 2)),
		"a step to somebody":             acting(room(), step(0, 0, 1)),
		"a step to somebody who goes":    acting(room(), step(0, 1, 2), step(0, 0, 1)),
		"a step from row to row":         acting(room(), step(0, 1, 2), step(1, 2, 4), step(2, 1, 3)),
		"a step back from row to row":    acting(room(), step(0, 0, 3), step(1, 0, 2)),
		"a step of two rows":             acting(api.Rite{Wide: 1, Deep: 3, People: people(0)}, step(0, 0, 2)),
		"a step to a person not yet out": acting(room(), step(0, 0, 3), step(0, 1, 0)),

		"a take with a full hand":         acting(room(bowl, cloth), take(0, 0, 0, 0), take(1, 0, 0, 1)),
		"a take of what one has":          acting(room(bowl), take(0, 0, 0, 0), take(1, 0, 1, 0)),
		"a take of what another one has":  acting(room(bowl), take(0, 0, 0, 0), step(1, 0, 3), take(2, 1, 0, 0)),
		"a take from elsewhere":           acting(room(api.Thing{Cell: 1}), take(0, 0, 0, 0)),
		"a take of what comes just now":   acting(room(bowl), take(0, 0, 0, 0), give(1, 0, 0, 1), lay(2, 1, 0), take(2, 0, 0, 0)),
		"a lay of nothing":                acting(room(bowl), lay(0, 0, 0)),
		"a lay with the other hand":       acting(room(bowl), take(0, 0, 0, 0), lay(1, 0, 1)),
		"a give of nothing":               acting(room(bowl), give(0, 0, 0, 1)),
		"a give with the other hand":      acting(room(bowl), take(0, 0, 0, 0), give(1, 0, 1, 1)),
		"a give to somebody far off":      acting(room(bowl), take(0, 0, 0, 0), give(1, 0, 0, 2)),
		"a give across":                   acting(room(bowl), take(0, 0, 0, 0), step(1, 2, 4), give(2, 0, 0, 2)),
		"a give from row to row":          acting(room(bowl), take(0, 0, 0, 0), step(1, 0, 3), step(2, 1, 2), give(3, 0, 0, 1)),
		"a give to full hands":            acting(room(bowl, bowl, bowl), take(0, 0, 0, 0), give(1, 0, 0, 1), take(2, 0, 0, 1), give(3, 0, 0, 1), take(4, 0, 1, 2), give(5, 0, 1, 1)),
		"a give to one who comes":         acting(room(bowl), take(0, 0, 0, 0), step(1, 1, 2), step(2, 1, 1), give(2, 0, 0, 1)),
		"a give to one who just lays":     acting(room(bowl, bowl, bowl), take(0, 0, 0, 0), give(1, 0, 0, 1), take(2, 0, 0, 1), give(3, 0, 0, 1), take(4, 0, 1, 2), lay(5, 1, 0), give(5, 0, 1, 1)),
		"a wipe with nothing":             acting(room(bowl, cloth), take(0, 0, 0, 0), wipe(1, 0, 1)),
		"a wipe with no cloth":            acting(room(bowl, cloth), both(wipe(2, 0, 0))...),
		"a wipe of nothing":               acting(room(cloth), take(0, 0, 0, 0), wipe(1, 0, 0)),
		"a wipe of nothing with nothing":  acting(room(cloth), wipe(0, 0, 0)),
		"a pour of nothing":               acting(room(full, bowl), take(0, 0, 1, 1), pour(1, 0, 0)),
		"a pour into nothing":             acting(room(full, bowl), take(0, 0, 0, 0), pour(1, 0, 0)),
		"a pour of what is empty":         acting(room(hot, bowl), both(pour(2, 0, 0))...),
		"a pour of what is covered":       acting(room(covered, bowl), both(pour(2, 0, 0))...),
		"a pour of an empty covered one":  acting(room(lid, bowl), both(pour(2, 0, 0))...),
		"a pour into what is full":        acting(room(full, full), both(pour(2, 0, 0))...),
		"a pour into what is covered":     acting(room(full, lid), both(pour(2, 0, 0))...),
		"a pour into a full covered one":  acting(room(full, covered), both(pour(2, 0, 0))...),
		"a pour the other way round":      acting(room(full, bowl), both(pour(2, 0, 1))...),
		"a pour twice":                    acting(room(full, bowl), both(pour(2, 0, 0), pour(3, 0, 0))...),
		"a cover of nothing":              acting(room(bowl), cover(0, 0, 0)),
		"a cover of what lies":            acting(room(bowl), take(0, 0, 0, 0), cover(1, 0, 1)),
		"a cover of what is covered":      acting(room(lid), take(0, 0, 0, 0), cover(1, 0, 0)),
		"a cover of a full covered thing": acting(room(covered), take(0, 0, 1, 0), cover(1, 0, 1)),
		"an open of nothing":              acting(room(lid), open(0, 0, 0)),
		"an open of what is open":         acting(room(hot), take(0, 0, 0, 0), open(1, 0, 0)),
		"an open of a full open thing":    acting(room(full), take(0, 0, 0, 0), open(1, 0, 0)),
		"an open twice":                   acting(room(lid), take(0, 0, 0, 0), open(1, 0, 0), open(2, 0, 0)),
	} {
		if at, e := ends(t, r); at != len(r.Acts)-1 || e != api.ErrState {
			t.Error(name, at, e)
		}
	}
}

// What each kind of act does: the last scene of lists of acts after which the hands are empty.
func TestWhatActsDo(t *testing.T) {
	for name, c := range map[string]struct {
		r    api.Rite
		want []api.Spot
	}{
		"a thing is carried":           {acting(room(api.Thing{}), take(0, 0, 1, 0), step(1, 0, 3), lay(2, 0, 1)), []api.Spot{{Cell: 3}}},
		"a thing is given":             {acting(room(api.Thing{State: 9}), take(0, 0, 1, 0), give(1, 0, 1, 1), lay(2, 1, 0)), []api.Spot{{Cell: 1, State: 9}}},
		"the second one in the hand 1": {acting(room(api.Thing{}, api.Thing{}), take(0, 0, 0, 0), take(1, 0, 1, 1), give(2, 0, 1, 1), give(3, 0, 0, 1), step(4, 1, 2), lay(5, 1, 0), step(6, 1, 1), lay(7, 1, 1)), []api.Spot{{Cell: 1}, {Cell: 2}}},
		"the hand 0 is empty again":    {acting(room(api.Thing{}, api.Thing{Cell: 1}), take(0, 0, 0, 0), take(0, 1, 1, 1), give(1, 0, 0, 1), lay(2, 1, 0), lay(3, 1, 1)), []api.Spot{{Cell: 1}, {Cell: 1}}},
		"a cloth is wiped, too":        {acting(room(api.Thing{State: 8, Cloth: true}, api.Thing{Cloth: true}), take(0, 0, 0, 0), take(1, 0, 1, 1), wipe(2, 0, 1), lay(3, 0, 0), lay(4, 0, 1)), []api.Spot{{State: 9}, {}}},
		"what is clean is wiped":       {acting(room(api.Thing{State: 15}, api.Thing{State: 6, Cloth: true}), take(0, 0, 0, 0), take(1, 0, 1, 1), wipe(2, 0, 1), lay(3, 0, 0), lay(4, 0, 1)), []api.Spot{{State: 15}, {State: 6}}},
		"hot tea":                      {acting(room(api.Thing{State: 11}, api.Thing{State: 1}), take(0, 0, 1, 0), take(1, 0, 0, 1), pour(2, 0, 1), lay(3, 0, 0), lay(4, 0, 1)), []api.Spot{{State: 8}, {State: 3}}},
		"tea from what is not clean":   {acting(room(api.Thing{State: 2}, api.Thing{State: 8}), take(0, 0, 0, 0), take(1, 0, 1, 1), pour(2, 0, 0), lay(3, 0, 0), lay(4, 0, 1)), []api.Spot{{State: 0}, {State: 10}}},
		"tea to and fro":               {acting(room(api.Thing{State: 3}, api.Thing{State: 1}), take(0, 0, 0, 0), take(1, 0, 1, 1), pour(2, 0, 0), pour(3, 0, 1), lay(4, 0, 0), lay(5, 0, 1)), []api.Spot{{State: 2}, {State: 0}}},
		"a lid":                        {acting(room(api.Thing{State: 11}, api.Thing{State: 15}), take(0, 0, 0, 0), cover(1, 0, 0), take(2, 0, 1, 1), open(3, 0, 1), lay(4, 0, 0), lay(5, 0, 1)), []api.Spot{{State: 15}, {State: 11}}},
		"open, and covered again":      {acting(room(api.Thing{State: 4}), take(0, 0, 0, 0), open(1, 0, 0), cover(2, 0, 0), lay(3, 0, 0)), []api.Spot{{State: 4}}},
	} {
		r := copied(c.r)
		for i, s := range c.want {
			r.Things[i].Home, r.Things[i].Want = s.Cell, s.State
		}
		if end, at, e := rite.Run(r); e != api.OK || at != -1 || !slices.Equal(end.Things, c.want) {
			t.Error(name, end, at, e)
		}
		for i := range c.want {
			// Nothing else is in order.
			for _, change := range []func(t *api.Thing){func(t *api.Thing) { t.Home = 4 }, func(t *api.Thing) { t.Want ^= 1 }, func(t *api.Thing) { t.Want ^= 8 }} {
				other := copied(r)
				change(&other.Things[i])
				if at, e := ends(t, other); at != len(r.Acts) || e != api.ErrOrder {
					t.Error(name, at, e)
				}
			}
		}
	}
}

// Acts of one minute are in each other's way if they touch the same.
func TestActsThatClash(t *testing.T) {
	bowls := room(api.Thing{}, api.Thing{Cell: 1}, api.Thing{Cell: 5})
	for name, c := range map[string]struct {
		acts []api.Act
		e    api.Errno
	}{
		"two into the cell 4":                {[]api.Act{step(0, 1, 4), step(0, 2, 4)}, api.ErrClash},
		"two into the cell 4, the other way": {[]api.Act{step(0, 2, 4), step(0, 1, 4)}, api.ErrClash},
		"two who change places":              {[]api.Act{step(0, 2, 2), step(1, 2, 1)}, api.ErrState},
		"into a cell that is left":           {[]api.Act{step(0, 0, 3), step(0, 1, 0)}, api.ErrState},
		"a give to one who takes":            {[]api.Act{take(0, 0, 0, 0), take(1, 1, 0, 1), give(1, 0, 0, 1)}, api.ErrClash},
		"one who takes, and is given":        {[]api.Act{take(0, 0, 0, 0), give(1, 0, 0, 1), take(1, 1, 0, 1)}, api.ErrClash},
		"a give to one who goes":             {[]api.Act{take(0, 0, 0, 0), step(1, 1, 2), give(1, 0, 0, 1)}, api.ErrClash},
		"two who give each other":            {[]api.Act{take(0, 0, 0, 0), take(0, 1, 0, 1), give(1, 0, 0, 1), give(1, 1, 0, 0)}, api.ErrClash},
		"two who give to one":                {[]api.Act{take(0, 0, 0, 0), take(0, 2, 0, 2), step(1, 2, 2), give(2, 0, 0, 1), give(2, 2, 0, 1)}, api.ErrClash},
		"both: it is not possible, either":   {[]api.Act{take(0, 1, 0, 1), give(1, 1, 0, 0), take(1, 0, 0, 1)}, api.ErrState},
		"one who clashes, of three":          {[]api.Act{step(0, 0, 3), step(0, 1, 4), step(0, 2, 4)}, api.ErrClash},
	} {
		if at, e := ends(t, acting(bowls, c.acts...)); at != len(c.acts)-1 || e != c.e {
			t.Error(name, at, e)
		}
	}
	// The first one in the list counts, whatever comes behind it.
	if at, e := ends(t, acting(bowls, step(0, 0, 5), step(0, 1, 4), step(0, 2, 4))); at != 0 || e != api.ErrState {
		t.Error(at, e)
	}
	if at, e := ends(t, acting(bowls, step(0, 1, 4), step(0, 2, 4), step(0, 0, 5))); at != 1 || e != api.ErrClash {
		t.Error(at, e)
	}
}

// Acts of one minute that are in nobody's way happen together.
func TestActsOfOneMinute(t *testing.T) {
	bowls := room(api.Thing{}, api.Thing{Cell: 1}, api.Thing{Cell: 5})
	bowls.Things[0].Home, bowls.Things[2].Home = 1, 2
	r := acting(bowls,
		take(0, 0, 1, 0), take(0, 2, 0, 2),
		give(1, 0, 1, 1), step(1, 2, 2),
		lay(2, 2, 0), step(2, 0, 3), lay(2, 1, 0),
		step(3, 0, 4), step(3, 2, 5), take(3, 1, 0, 1),
		lay(4, 1, 0), step(4, 0, 3))
	end, at, e := rite.Run(r)
	want := api.Scene{People: []int{3, 1, 5}, Hands: slices.Repeat([][2]int{{-1, -1}}, 3), Things: []api.Spot{{Cell: 1}, {Cell: 1}, {Cell: 2}}}
	if e != api.OK || at != -1 || !same(end, want) {
		t.Error(end, at, e)
	}
	if l := must[[]api.Scene](t)(rite.Scenes(r)); len(l) != 6 || !same(l[2], api.Scene{People: []int{0, 1, 2}, Hands: [][2]int{{-1, -1}, {0, -1}, {2, -1}}, Things: []api.Spot{{Cell: -1}, {Cell: 1}, {Cell: -1}}}) {
		t.Error(l)
	}
}

// The seasons and ranks of acts do not count for a run.
func TestSeasonsAndRanksDoNotCount(t *testing.T) {
	r := riteR()
	for i := range r.Acts {
		r.Acts[i].Seasons, r.Acts[i].Rank = 1+i, 9-i
	}
	if at, e := ends(t, r); at != -1 || e != api.OK {
		t.Error(at, e)
	}
	if got := must[api.Rite](t)(rite.Lapse(r, 1, api.LapseSkip)); !sameRite(got, acting(r, slices.Delete(slices.Clone(r.Acts), 1, 2)...)) {
		t.Error(got)
	}
	if mend := must[[]api.Act](t)(rite.Mend(r, 2, api.LapseSkip)); !slices.Equal(mend, []api.Act{wipe(0, 0, 1)}) {
		t.Error(mend)
	}
	if got := firmOf(t, r); got != [2]int{-1, 0} {
		t.Error(got)
	}
}

// P6.3

// pair is a room of 3 by 1 cells in which the host and a guest step into the middle, by turns.
func pair(acts ...api.Act) api.Rite {
	return api.Rite{Wide: 3, Deep: 1, People: people(0, 2), Lapses: []int{1, 3}, Acts: acts}
}

func TestLapse(t *testing.T) {
	r := riteR()
	l := r.Acts
	// The host holds bowls in both hands, gives one, and lays the other one down.
	giving := acting(room(api.Thing{}, api.Thing{}), take(0, 0, 0, 0), take(1, 0, 1, 1), give(2, 0, 0, 1), lay(3, 0, 1), lay(4, 1, 0))
	giving.Things[0].Home = 1
	turns := acting(room(), step(0, 0, 3), step(1, 0, 0), step(2, 1, 4), step(3, 1, 1), step(3, 0, 3), step(7, 0, 0))
	for i, c := range []struct {
		r         api.Rite
		act, kind int
		want      []api.Act
	}{
		{r, 0, api.LapseSkip, l[1:]},
		{r, 2, api.LapseSkip, []api.Act{l[0], l[1], l[3], l[4]}},
		{r, 4, api.LapseSkip, l[:4]},
		// It is possible with the other hand.
		{r, 0, api.LapseHand, []api.Act{take(0, 0, 1, 0), l[1], l[2], l[3], l[4]}},
		{r, 3, api.LapseHand, []api.Act{l[0], l[1], l[2], lay(3, 0, 1), l[4]}},
		{giving, 2, api.LapseHand, []api.Act{giving.Acts[0], giving.Acts[1], give(2, 0, 1, 1), giving.Acts[3], giving.Acts[4]}},
		// It is not: the hand is full, there is no cloth, it is empty.
		{r, 1, api.LapseHand, []api.Act{l[0], l[2], l[3], l[4]}},
		{r, 2, api.LapseHand, []api.Act{l[0], l[1], l[3], l[4]}},
		{r, 4, api.LapseHand, l[:4]},
		{giving, 4, api.LapseHand, giving.Acts[:4]},
		{r, 0, api.LapseLate, []api.Act{take(1, 0, 0, 0), take(2, 0, 1, 1), wipe(3, 0, 1), lay(4, 0, 0), lay(5, 0, 1)}},
		{r, 4, api.LapseLate, []api.Act{l[0], l[1], l[2], l[3], lay(5, 0, 1)}},
		// Those of one minute stand in the order in which they stood.
		{turns, 1, api.LapseLate, []api.Act{step(0, 0, 3), step(2, 0, 0), step(2, 1, 4), step(3, 1, 1), step(4, 0, 3), step(8, 0, 0)}},
		{turns, 2, api.LapseLate, []api.Act{step(0, 0, 3), step(1, 0, 0), step(3, 1, 4), step(3, 0, 3), step(4, 1, 1), step(7, 0, 0)}},
		{turns, 3, api.LapseLate, []api.Act{step(0, 0, 3), step(1, 0, 0), step(2, 1, 4), step(3, 0, 3), step(4, 1, 1), step(7, 0, 0)}},
	} {
		if got := must[api.Rite](t)(rite.Lapse(c.r, c.act, c.kind)); !sameRite(got, acting(c.r, c.want...)) {
			t.Error(i, got.Acts)
		}
	}
}

func TestLapsesThatAreNotValid(t *testing.T) {
	r, walk := riteR(), pair(step(0, 0, 1))
	for i, c := range []struct {
		r         api.Rite
		act, kind int
		e         api.Errno
	}{
		{r, -1, 1, api.ErrMissing}, {r, 5, 1, api.ErrMissing}, {r, 5, 0, api.ErrMissing}, {r, math.MinInt, 9, api.ErrMissing}, {r, math.MaxInt, 1, api.ErrMissing}, {pair(), 0, 1, api.ErrMissing},
		{r, 0, 0, api.ErrKind}, {r, 0, 4, api.ErrKind}, {r, 4, -1, api.ErrKind}, {r, 4, math.MaxInt, api.ErrKind}, {walk, 0, 4, api.ErrKind},
		{walk, 0, api.LapseHand, api.ErrForm},
		// What Run returns comes before.
		{acting(r), 0, 1, api.ErrOrder}, {acting(r, r.Acts[:4]...), 9, 9, api.ErrOrder}, {acting(r, lay(0, 0, 0)), 9, 9, api.ErrState}, {acting(r, lay(0, 0, 0)), 0, 1, api.ErrState},
		{acting(room(), step(0, 1, 4), step(0, 2, 4)), 9, 1, api.ErrClash},
	} {
		lapse, e := rite.Lapse(c.r, c.act, c.kind)
		mend, f := rite.Mend(c.r, c.act, c.kind)
		whole, g := rite.Mended(c.r, c.act, c.kind, make([]api.Act, 9))
		if e != c.e || f != c.e || g != c.e || !isNoRite(lapse) || len(mend) != 0 || !isNoRite(whole) {
			t.Error(i, lapse, e, mend, f, whole, g)
		}
	}
	// A lapse of a kind that may not happen may be asked about.
	r.Lapses = nil
	for kind := 1; kind <= 3; kind++ {
		if got, e := rite.Lapse(r, 0, kind); e != api.OK || len(got.Lapses) != 0 {
			t.Error(kind, e)
		}
	}
}

// P6.4

func TestMended(t *testing.T) {
	r := riteR()
	l := r.Acts
	turns := acting(room(), step(0, 0, 3), step(1, 0, 0), step(2, 1, 4), step(3, 1, 1), step(3, 0, 3), step(7, 0, 0))
	for i, c := range []struct {
		r         api.Rite
		act, kind int
		mend      []api.Act
		want      []api.Act
	}{
		{r, 0, api.LapseSkip, nil, l[1:]},
		{r, 0, api.LapseSkip, []api.Act{take(0, 0, 0, 0)}, []api.Act{take(1, 0, 0, 0), take(2, 0, 1, 1), wipe(3, 0, 1), lay(4, 0, 0), lay(5, 0, 1)}},
		{r, 4, api.LapseSkip, []api.Act{lay(0, 0, 1)}, []api.Act{l[0], l[1], l[2], l[3], lay(5, 0, 1)}},
		{r, 3, api.LapseHand, []api.Act{take(0, 0, 1, 1), lay(0, 0, 0)}, []api.Act{l[0], l[1], l[2], lay(3, 0, 1), take(4, 0, 1, 1), lay(5, 0, 0), lay(6, 0, 1)}},
		// Three acts, which do not repair anything, and are not possible.
		{r, 2, api.LapseHand, []api.Act{step(0, 0, 1), cover(0, 0, 0), take(0, 0, 1, 1)}, []api.Act{l[0], l[1], step(3, 0, 1), cover(4, 0, 0), take(5, 0, 1, 1), lay(6, 0, 0), lay(7, 0, 1)}},
		// The minute of a delay is one more.
		{r, 0, api.LapseLate, []api.Act{lay(0, 0, 0)}, []api.Act{take(1, 0, 0, 0), lay(2, 0, 0), take(3, 0, 1, 1), wipe(4, 0, 1), lay(5, 0, 0), lay(6, 0, 1)}},
		// Those of others in the minute stay, those behind it are later; the mend stands behind all of the minutes before.
		{turns, 1, api.LapseLate, []api.Act{step(0, 0, 3), step(0, 0, 0)}, []api.Act{step(0, 0, 3), step(2, 0, 0), step(2, 1, 4), step(3, 0, 3), step(4, 0, 0), step(5, 1, 1), step(6, 0, 3), step(10, 0, 0)}},
		{turns, 2, api.LapseSkip, []api.Act{step(0, 1, 4)}, []api.Act{step(0, 0, 3), step(1, 0, 0), step(3, 1, 4), step(4, 1, 1), step(4, 0, 3), step(8, 0, 0)}},
		{turns, 3, api.LapseSkip, []api.Act{step(0, 1, 1)}, []api.Act{step(0, 0, 3), step(1, 0, 0), step(2, 1, 4), step(3, 0, 3), step(4, 1, 1), step(8, 0, 0)}},
		{turns, 4, api.LapseSkip, []api.Act{step(0, 0, 3)}, []api.Act{step(0, 0, 3), step(1, 0, 0), step(2, 1, 4), step(3, 1, 1), step(4, 0, 3), step(8, 0, 0)}},
	} {
		if got := must[api.Rite](t)(rite.Mended(c.r, c.act, c.kind, c.mend)); !sameRite(got, acting(c.r, c.want...)) {
			t.Error(i, got.Acts)
		}
	}
}

func TestMendsThatAreNotValid(t *testing.T) {
	r := riteR()
	good := take(0, 0, 0, 0)
	for i, c := range []struct {
		mend []api.Act
		e    api.Errno
	}{
		{make([]api.Act, 4), api.ErrFull}, {slices.Repeat([]api.Act{good}, 4), api.ErrFull}, {make([]api.Act, 100000), api.ErrFull},
		{[]api.Act{take(0, 1, 0, 0)}, api.ErrMissing}, {[]api.Act{take(1, 2, 0, 0)}, api.ErrMissing}, {[]api.Act{good, good, take(0, -1, 0, 0)}, api.ErrMissing},
		{[]api.Act{take(1, 0, 0, 0)}, api.ErrForm}, {[]api.Act{take(-1, 0, 0, 0)}, api.ErrForm}, {[]api.Act{{At: 1}}, api.ErrForm},
		{[]api.Act{{Kind: 3, Seasons: 1}}, api.ErrForm}, {[]api.Act{{Kind: 3, Rank: 1}}, api.ErrForm}, {[]api.Act{{Seasons: 16}}, api.ErrForm}, {[]api.Act{{Rank: -1}}, api.ErrForm},
		{[]api.Act{{}}, api.ErrKind}, {[]api.Act{{Kind: 9, Hand: 9}}, api.ErrKind}, {[]api.Act{{Kind: math.MinInt}}, api.ErrKind},
		{[]api.Act{{Kind: 1, Hand: 1, Cell: 2}}, api.ErrForm}, {[]api.Act{{Kind: 8, Other: 1}}, api.ErrForm},
		{[]api.Act{take(0, 0, 2, 2)}, api.ErrRange}, {[]api.Act{take(0, 0, 1, 2)}, api.ErrMissing}, {[]api.Act{step(0, 0, 2)}, api.ErrMissing}, {[]api.Act{give(0, 0, 0, 2)}, api.ErrMissing}, {[]api.Act{give(0, 0, 0, 0)}, api.ErrForm},
		// Act by act.
		{[]api.Act{{Kind: 9}, take(0, 1, 0, 0)}, api.ErrKind}, {[]api.Act{good, lay(0, 0, 2), {At: 1}}, api.ErrRange}, {[]api.Act{good, {At: 1, Kind: 9}, lay(0, 1, 0)}, api.ErrForm},
	} {
		if got, e := rite.Mended(r, 0, api.LapseSkip, c.mend); e != c.e || !isNoRite(got) {
			t.Error(i, got, e)
		}
	}
	// Who lapses mends, also if it is not the host.
	turns := pair(step(0, 1, 1), step(1, 1, 2))
	if _, e := rite.Mended(turns, 0, api.LapseSkip, []api.Act{step(0, 1, 1)}); e != api.OK {
		t.Error(e)
	}
	if _, e := rite.Mended(turns, 0, api.LapseSkip, []api.Act{step(0, 0, 1)}); e != api.ErrMissing {
		t.Error(e)
	}
}

// spill is a rite in which the host wipes with the cloth in hand 0 the one in hand 1, and lays both down; the second one is full of tea if that is wanted.
func spill(state int) api.Rite {
	r := acting(room(api.Thing{Cloth: true}, api.Thing{Cloth: true, State: state}), take(0, 0, 0, 0), take(1, 0, 1, 1), wipe(2, 0, 0), lay(3, 0, 0), lay(4, 0, 1))
	r.Things[1].Want = state | api.StateClean
	r.Lapses = []int{1, 2, 3}
	return r
}

func TestMend(t *testing.T) {
	r := riteR()
	watched := changed(func(r *api.Rite) { r.Seen = []int{0, 1} })
	for i, c := range []struct {
		r         api.Rite
		act, kind int
		want      []api.Act
		e         api.Errno
	}{
		{r, 0, api.LapseSkip, []api.Act{take(0, 0, 0, 0)}, api.OK},
		{r, 0, api.LapseHand, []api.Act{lay(0, 0, 1), take(0, 0, 0, 0)}, api.OK},
		{r, 1, api.LapseSkip, []api.Act{take(0, 0, 1, 1)}, api.OK},
		{r, 2, api.LapseHand, []api.Act{wipe(0, 0, 1)}, api.OK},
		{r, 3, api.LapseHand, []api.Act{take(0, 0, 1, 1), lay(0, 0, 0)}, api.OK},
		{r, 4, api.LapseSkip, []api.Act{lay(0, 0, 1)}, api.OK},
		{r, 3, api.LapseLate, nil, api.OK}, {r, 4, api.LapseLate, nil, api.OK}, {watched, 2, api.LapseLate, nil, api.OK},
		{watched, 0, api.LapseSkip, nil, api.ErrMissing}, {watched, 4, api.LapseHand, nil, api.ErrMissing},
		// What was wiped instead is made unclean by pouring tea into it and back: three acts. Without tea it stays clean.
		{spill(api.StateFull), 2, api.LapseHand, []api.Act{pour(0, 0, 1), wipe(0, 0, 0), pour(0, 0, 0)}, api.OK},
		{spill(0), 2, api.LapseHand, nil, api.ErrMissing},
		// The host is late, and in the way: too late for any mend.
		{pair(step(0, 0, 1), step(1, 0, 0), step(2, 1, 1)), 1, api.LapseLate, nil, api.ErrMissing},
		// Somebody else is in the way only behind the minute.
		{pair(step(0, 0, 1), step(1, 0, 0), step(3, 1, 1)), 1, api.LapseLate, nil, api.OK},
		{pair(step(0, 0, 1), step(1, 0, 0), step(2, 1, 1)), 1, api.LapseSkip, []api.Act{step(0, 0, 0)}, api.OK},
		// Nothing has to be in a cell in the end, so nobody has to step.
		{pair(step(0, 0, 1), step(1, 0, 0)), 1, api.LapseSkip, nil, api.OK},
		{pair(step(0, 0, 1), step(1, 0, 0)), 0, api.LapseSkip, []api.Act{step(0, 0, 1)}, api.OK},
	} {
		if mend, e := rite.Mend(c.r, c.act, c.kind); e != c.e || !slices.Equal(mend, c.want) {
			t.Error(i, mend, e)
		}
	}
}

// Where the person is seen before an act of the mend, or behind it, there is no mend.
func TestMendsThatAreSeen(t *testing.T) {
	// The host goes to fetch a bowl, comes back, and lays it down at home.
	fetch := api.Rite{Wide: 4, Deep: 1, People: people(0, 3), Things: []api.Thing{{Cell: 1}}, Lapses: []int{1},
		Acts: []api.Act{step(0, 0, 1), take(1, 0, 0, 0), step(2, 0, 0), lay(3, 0, 0)}}
	for i, c := range []struct {
		seen []int
		want [4]bool // whether the acts, if they are left out, can be mended
	}{
		{nil, [4]bool{true, true, true, true}},
		{[]int{0}, [4]bool{false, true, false, false}},
		{[]int{1}, [4]bool{false, false, false, true}},
		// Where somebody else is does not matter.
		{[]int{2, 3}, [4]bool{true, true, true, true}},
	} {
		fetch.Seen = c.seen
		first := [2]int{-1, 0}
		for act, want := range c.want {
			mend, e := rite.Mend(fetch, act, api.LapseSkip)
			as := fetch.Acts[act]
			as.At = 0
			if want != (e == api.OK) || want && !slices.Equal(mend, []api.Act{as}) {
				t.Error(i, act, mend, e)
			}
			if !want && first[0] == -1 {
				first = [2]int{act, api.LapseSkip}
			}
		}
		if got := firmOf(t, fetch); got != first {
			t.Error(i, got, first)
		}
	}
}

// The minutes and the number of acts of what is mended have no bounds.
func TestMendsBeyondTheLimits(t *testing.T) {
	r := riteR()
	for i := range r.Acts {
		r.Acts[i].At += 996
	}
	for i, c := range []struct {
		act, kind int
		want      []api.Act
		last      int
	}{{4, api.LapseSkip, []api.Act{lay(0, 0, 1)}, 1001}, {4, api.LapseLate, nil, 1001}, {0, api.LapseHand, []api.Act{lay(0, 0, 1), take(0, 0, 0, 0)}, 1002}} {
		mend := must[[]api.Act](t)(rite.Mend(r, c.act, c.kind))
		whole := must[api.Rite](t)(rite.Mended(r, c.act, c.kind, c.want))
		if !slices.Equal(mend, c.want) || whole.Acts[len(whole.Acts)-1].At != c.last {
			t.Error(i, mend, whole.Acts)
		}
	}
	if got := firmOf(t, r); got != [2]int{-1, 0} {
		t.Error(got)
	}
	// 40 acts: the bowl is wiped again and again.
	r = riteR()
	r.Acts = r.Acts[:2]
	for at := range 36 {
		r.Acts = append(r.Acts, wipe(2+at, 0, 1))
	}
	r.Acts = append(r.Acts, lay(38, 0, 0), lay(39, 0, 1))
	mend := must[[]api.Act](t)(rite.Mend(r, 38, api.LapseHand))
	whole := must[api.Rite](t)(rite.Mended(r, 38, api.LapseHand, mend))
	if len(r.Acts) != 40 || len(mend) != 2 || len(whole.Acts) != 42 || rite.Check(whole) != api.ErrFull {
		t.Error(mend, whole)
	}
	if got := firmOf(t, r); got != [2]int{-1, 0} {
		t.Error(got)
	}
}

// P6.5

func TestFirm(t *testing.T) {
	r := riteR()
	with := func(r api.Rite, seen []int, lapses ...int) api.Rite {
		r.Seen, r.Lapses = seen, lapses
		return r
	}
	clash := pair(step(0, 0, 1), step(1, 0, 0), step(2, 1, 1))
	for i, c := range []struct {
		r    api.Rite
		want [2]int
	}{
		{r, [2]int{-1, 0}}, {with(r, []int{0, 1}, 1, 2, 3), [2]int{0, 1}}, {with(r, []int{0}, 2, 3), [2]int{0, 2}}, {with(r, []int{0}, 3), [2]int{-1, 0}}, {with(r, []int{0}), [2]int{-1, 0}},
		{spill(0), [2]int{2, 2}}, {with(spill(0), nil, 1, 3), [2]int{-1, 0}}, {spill(api.StateFull), [2]int{-1, 0}},
		// There is no other hand for a step, so it is no lapse.
		{with(clash, nil, 1, 2, 3), [2]int{0, 3}}, {with(clash, nil, 1, 2), [2]int{-1, 0}}, {with(clash, nil, 2), [2]int{-1, 0}}, {pair(), [2]int{-1, 0}},
	} {
		if got := firmOf(t, c.r); got != c.want {
			t.Error(i, got)
		}
	}
	for i, c := range []struct {
		r api.Rite
		e api.Errno
	}{{acting(r), api.ErrOrder}, {acting(r, r.Acts[1:]...), api.ErrState}, {acting(room(), step(0, 1, 4), step(0, 2, 4)), api.ErrClash}} {
		if act, kind, e := rite.Firm(c.r); act != 0 || kind != 0 || e != c.e {
			t.Error(i, act, kind, e)
		}
	}
}
