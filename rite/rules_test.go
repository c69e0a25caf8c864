package rite_test

import (
	"math"
	"math/rand/v2"
	"slices"
	"testing"

	"aloeswood/api"
	"aloeswood/rite"
)

// input is what the functions of the package are called with.
type input struct {
	r            api.Rite
	season, rank int
	act, kind    int
	mend         []api.Act
}

// calls returns the functions of the package, each with what it returns: its error, and whether all else is zero.
func (in input) calls() map[string]func() (api.Errno, bool) {
	return map[string]func() (api.Errno, bool){
		"Check":  func() (api.Errno, bool) { return rite.Check(in.r), true },
		"Choose": func() (api.Errno, bool) { r, e := rite.Choose(in.r, in.season, in.rank); return e, isNoRite(r) },
		// The number of an act is named besides an error.
		"Run":    func() (api.Errno, bool) { s, _, e := rite.Run(in.r); return e, isEmpty(s) },
		"Scenes": func() (api.Errno, bool) { l, e := rite.Scenes(in.r); return e, len(l) == 0 },
		"Lapse":  func() (api.Errno, bool) { r, e := rite.Lapse(in.r, in.act, in.kind); return e, isNoRite(r) },
		"Mend":   func() (api.Errno, bool) { l, e := rite.Mend(in.r, in.act, in.kind); return e, len(l) == 0 },
		"Mended": func() (api.Errno, bool) {
			r, e := rite.Mended(in.r, in.act, in.kind, in.mend)
			return e, isNoRite(r)
		},
		"Firm": func() (api.Errno, bool) { act, kind, e := rite.Firm(in.r); return e, act == 0 && kind == 0 },
	}
}

// odd returns a number of any size.
func odd(random *rand.Rand) int {
	numbers := []int{math.MinInt, math.MinInt + 1, -2, -1, 0, 1, 2, 3, 4, 6, 7, 8, 9, 15, 16, 36, 40, 1000, 1001, math.MaxInt - 1, math.MaxInt}
	return numbers[random.IntN(len(numbers))]
}

// oddAct returns an act with any values.
func oddAct(random *rand.Rand) api.Act {
	a := api.Act{At: odd(random), Who: odd(random), Kind: odd(random), Hand: odd(random), Thing: odd(random), Cell: odd(random), Other: odd(random)}
	if random.IntN(2) == 0 {
		a.Seasons, a.Rank = odd(random), odd(random)
	}
	return a
}

// upset sets some field of a rite to any value.
func upset(random *rand.Rand, r *api.Rite) {
	n := odd(random)
	act := random.IntN(max(len(r.Acts), 1))
	if len(r.Acts) == 0 {
		r.Acts = []api.Act{oddAct(random)}
	}
	r.Things = append(r.Things, api.Thing{})
	thing, who := random.IntN(len(r.Things)), random.IntN(len(r.People))
	fields := []*int{&r.Wide, &r.Deep, &r.People[who].Role, &r.People[who].Cell,
		&r.Things[thing].Cell, &r.Things[thing].Home, &r.Things[thing].State, &r.Things[thing].Want,
		&r.Acts[act].At, &r.Acts[act].Who, &r.Acts[act].Kind, &r.Acts[act].Hand, &r.Acts[act].Thing, &r.Acts[act].Cell, &r.Acts[act].Other, &r.Acts[act].Seasons, &r.Acts[act].Rank}
	*fields[random.IntN(len(fields))] = n
	switch random.IntN(12) {
	case 0:
		r.Seen = append(r.Seen, n)
	case 1:
		r.Lapses = append(r.Lapses, n)
	case 2:
		r.People = append(r.People, api.Person{Role: n, Cell: odd(random)})
	case 3:
		r.Acts = append(r.Acts, oddAct(random))
	case 4:
		r.People = make([]api.Person, 100000)
	case 5:
		r.Things = make([]api.Thing, 100000)
	case 6:
		r.Acts = make([]api.Act, 100000)
	case 7:
		r.Seen, r.Lapses = make([]int, 100000), make([]int, 100000)
	}
}

// P1, R3, R5: no argument makes a function panic, and all is zero beside an error.
func TestAnyArguments(t *testing.T) {
	random := rand.New(rand.NewPCG(21, 22))
	done, refused := map[string]int{}, map[string]int{}
	for i, r := range someRites(random, 4000, 3, 4, 5) {
		in := input{r: r, season: random.IntN(4), rank: random.IntN(10), act: random.IntN(len(r.Acts) + 1), kind: 1 + random.IntN(3)}
		switch i % 4 {
		case 0:
			in.mend = forms(r, 0)[:2]
		case 1:
			in.season, in.rank, in.act, in.kind = odd(random), odd(random), odd(random), odd(random)
			in.mend = []api.Act{oddAct(random)}
		default:
			upset(random, &in.r)
		}
		for function, call := range in.calls() {
			e, zero := call()
			if e != api.OK && !zero {
				t.Fatal(function, in, e)
			}
			if e == api.OK {
				done[function]++
			} else {
				refused[function]++
			}
		}
	}
	// All are called with what is valid as well.
	if len(done) < 8 || len(refused) < 8 {
		t.Error(done, refused)
	}
}

// R4: a nil slice and an empty one are equal.
func TestNilAndEmptyAreEqual(t *testing.T) {
	empty := api.Rite{Wide: 1, Deep: 1, People: people(0), Things: []api.Thing{}, Seen: []int{}, Lapses: []int{}, Acts: []api.Act{}}
	for _, r := range []api.Rite{empty, {Wide: 1, Deep: 1, People: people(0)}} {
		end, at, e := rite.Run(r)
		if e != api.OK || at != -1 || !same(end, api.Scene{People: []int{0}, Hands: [][2]int{{-1, -1}}}) {
			t.Error(end, at, e)
		}
		if got := must[api.Rite](t)(rite.Choose(r, 0, 0)); !sameRite(got, empty) {
			t.Error(got)
		}
		if got := firmOf(t, r); got != [2]int{-1, 0} {
			t.Error(got)
		}
	}
	if e := rite.Check(changed(func(r *api.Rite) { r.People = []api.Person{} })); e != api.ErrShort {
		t.Error(e)
	}
	a, e := rite.Mended(riteR(), 0, api.LapseSkip, nil)
	b, f := rite.Mended(riteR(), 0, api.LapseSkip, []api.Act{})
	if e != api.OK || f != api.OK || !sameRite(a, b) {
		t.Error(a, e, b, f)
	}
}

// blot sets all of a list to a value, also what is behind its end.
func blot[T any](l []T, value T) {
	for i := range l[:cap(l)] {
		l[:cap(l)][i] = value
	}
}

// blotRite changes all lists of a rite.
func blotRite(r api.Rite) {
	blot(r.People, api.Person{Role: 77})
	blot(r.Things, api.Thing{Cell: 77})
	blot(r.Seen, 77)
	blot(r.Lapses, 77)
	blot(r.Acts, api.Act{At: 77})
}

// blotScene changes all lists of a scene.
func blotScene(s api.Scene) {
	blot(s.People, 77)
	blot(s.Hands, [2]int{77, 77})
	blot(s.Things, api.Spot{Cell: 77})
}

// R4: what is given is not changed, and what is returned is new each time, and shares nothing.
func TestArgumentsAndResultsAreApart(t *testing.T) {
	// What lies behind the ends of the lists must not be used, either.
	long := func() api.Rite {
		r := riteR()
		r.People, r.Things = append(r.People, people(0)...), append(r.Things, api.Thing{Cell: 9})
		r.Seen, r.Lapses = append(r.Seen, 5), append(r.Lapses, 6)
		r.Acts = append(r.Acts, take(9, 9, 9, 9), step(9, 9, 9))
		return r
	}
	in := input{r: long(), act: 1, kind: api.LapseSkip, mend: []api.Act{take(0, 0, 1, 1), cover(0, 0, 1), open(0, 0, 1)}}
	in.r.People, in.r.Things, in.r.Seen, in.r.Lapses, in.r.Acts = in.r.People[:2], in.r.Things[:2], in.r.Seen[:1], in.r.Lapses[:3], in.r.Acts[:5]
	mend := slices.Clone(in.mend)
	intact := func() bool {
		whole := in.r
		whole.People, whole.Things, whole.Seen, whole.Lapses, whole.Acts = whole.People[:3], whole.Things[:3], whole.Seen[:2], whole.Lapses[:4], whole.Acts[:7]
		return sameRite(whole, long()) && sameRite(in.r, riteR()) && slices.Equal(in.mend, mend)
	}
	for act := range in.r.Acts {
		for kind := 1; kind <= 3; kind++ {
			in.act, in.kind = act, kind
			for function, call := range in.calls() {
				if call(); !intact() {
					t.Fatal(function, act, kind, in)
				}
			}
		}
	}
	in.act, in.kind = 1, api.LapseSkip
	for function, call := range map[string]func() api.Rite{
		"Choose":    func() api.Rite { return must[api.Rite](t)(rite.Choose(in.r, 0, 9)) },
		"Lapse":     func() api.Rite { return must[api.Rite](t)(rite.Lapse(in.r, 1, api.LapseSkip)) },
		"Lapse 2":   func() api.Rite { return must[api.Rite](t)(rite.Lapse(in.r, 0, api.LapseHand)) },
		"Lapse 3":   func() api.Rite { return must[api.Rite](t)(rite.Lapse(in.r, 0, api.LapseLate)) },
		"Mended":    func() api.Rite { return must[api.Rite](t)(rite.Mended(in.r, 1, api.LapseSkip, in.mend)) },
		"Mended by": func() api.Rite { return must[api.Rite](t)(rite.Mended(in.r, 4, api.LapseLate, nil)) },
	} {
		first := call()
		kept := copied(first)
		second := call()
		blotRite(first)
		if !sameRite(second, kept) || !sameRite(call(), kept) || !intact() {
			t.Error(function, kept, second)
		}
	}
	first := must[[]api.Act](t)(rite.Mend(in.r, 0, api.LapseHand))
	kept := slices.Clone(first)
	second := must[[]api.Act](t)(rite.Mend(in.r, 0, api.LapseHand))
	blot(first, api.Act{At: 77})
	if !slices.Equal(second, kept) || !intact() {
		t.Error(second, kept)
	}
}

// R4: the scenes of a rite share nothing.
func TestScenesAreApart(t *testing.T) {
	r := riteR()
	want := must[[]api.Scene](t)(rite.Scenes(r))
	scenes := must[[]api.Scene](t)(rite.Scenes(r))
	for i, s := range scenes {
		blotScene(s)
		if !sameAll(scenes[i+1:], want[i+1:]) || !sameAll(must[[]api.Scene](t)(rite.Scenes(r)), want) {
			t.Fatal(i, scenes)
		}
	}
	end, _, _ := rite.Run(r)
	blotScene(end)
	if again, _, e := rite.Run(r); e != api.OK || !same(again, want[5]) || !sameRite(r, riteR()) {
		t.Error(again, e)
	}
}
