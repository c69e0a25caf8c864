package rite_test

import (
	"math/rand/v2"
	"slices"
	"testing"

	"aloeswood/api"
	"aloeswood/rite"
)

// Acts of somebody in a minute.

func step(at, who, cell int) api.Act {
	return api.Act{At: at, Who: who, Kind: api.ActStep, Cell: cell}
}

func take(at, who, hand, thing int) api.Act {
	return api.Act{At: at, Who: who, Kind: api.ActTake, Hand: hand, Thing: thing}
}

func give(at, who, hand, other int) api.Act {
	return api.Act{At: at, Who: who, Kind: api.ActGive, Hand: hand, Other: other}
}

func lay(at, who, hand int) api.Act   { return by(at, who, api.ActLay, hand) }
func wipe(at, who, hand int) api.Act  { return by(at, who, api.ActWipe, hand) }
func pour(at, who, hand int) api.Act  { return by(at, who, api.ActPour, hand) }
func cover(at, who, hand int) api.Act { return by(at, who, api.ActCover, hand) }
func open(at, who, hand int) api.Act  { return by(at, who, api.ActOpen, hand) }

// by returns an act of a kind that names a hand alone.
func by(at, who, kind, hand int) api.Act { return api.Act{At: at, Who: who, Kind: kind, Hand: hand} }

// people returns people in these cells: the host, and then guests.
func people(cells ...int) []api.Person {
	var l []api.Person
	for i, cell := range cells {
		role := api.RoleGuest
		if i == 0 {
			role = api.RoleHost
		}
		l = append(l, api.Person{Role: role, Cell: cell})
	}
	return l
}

// riteR is the rite R of the chapter.
func riteR() api.Rite {
	return api.Rite{
		Wide: 2, Deep: 1, People: people(0, 1),
		Things: []api.Thing{{Want: api.StateClean}, {State: api.StateClean, Want: api.StateClean, Cloth: true}},
		Seen:   []int{1}, Lapses: []int{api.LapseSkip, api.LapseHand, api.LapseLate},
		Acts: []api.Act{take(0, 0, 0, 0), take(1, 0, 1, 1), wipe(2, 0, 1), lay(3, 0, 0), lay(4, 0, 1)},
	}
}

// acting returns a rite with these acts instead of its own.
func acting(r api.Rite, acts ...api.Act) api.Rite {
	r.Acts = acts
	return r
}

// changed returns the rite R with a change.
func changed(change func(r *api.Rite)) api.Rite {
	r := riteR()
	change(&r)
	return r
}

// room returns a rite in a room of 3 by 2 cells, the host in the cell 0 and guests in the cells 1 and 5, with these things, which stay as they are.
//
//	0 1 2
//	3 4 5
func room(things ...api.Thing) api.Rite {
	r := api.Rite{Wide: 3, Deep: 2, People: people(0, 1, 5)}
	for _, t := range things {
		t.Home, t.Want = t.Cell, t.State
		r.Things = append(r.Things, t)
	}
	return r
}

// must fails the test unless there was no error.
func must[T any](t *testing.T) func(v T, e api.Errno) T {
	return func(v T, e api.Errno) T {
		t.Helper()
		if e != api.OK {
			t.Fatal("unexpected", e)
		}
		return v
	}
}

// firmOf returns what Firm returns of a rite that is accepted.
func firmOf(t *testing.T, r api.Rite) [2]int {
	t.Helper()
	act, kind, e := rite.Firm(r)
	if e != api.OK {
		t.Fatal("unexpected", e, r)
	}
	return [2]int{act, kind}
}

// same tells whether two scenes are equal.
func same(a, b api.Scene) bool {
	return slices.Equal(a.People, b.People) && slices.Equal(a.Hands, b.Hands) && slices.Equal(a.Things, b.Things)
}

// sameAll tells whether two lists of scenes are equal.
func sameAll(a, b []api.Scene) bool { return slices.EqualFunc(a, b, same) }

// isEmpty tells whether a scene is the zero value.
func isEmpty(s api.Scene) bool { return same(s, api.Scene{}) }

// sameRite tells whether two rites are equal.
func sameRite(a, b api.Rite) bool {
	return a.Wide == b.Wide && a.Deep == b.Deep && slices.Equal(a.People, b.People) && slices.Equal(a.Things, b.Things) && slices.Equal(a.Seen, b.Seen) && slices.Equal(a.Lapses, b.Lapses) && slices.Equal(a.Acts, b.Acts)
}

// isNoRite tells whether a rite is the zero value.
func isNoRite(r api.Rite) bool { return sameRite(r, api.Rite{}) }

// copied returns a rite that is equal, and apart.
func copied(r api.Rite) api.Rite {
	r.People, r.Things, r.Seen = slices.Clone(r.People), slices.Clone(r.Things), slices.Clone(r.Seen)
	r.Lapses, r.Acts = slices.Clone(r.Lapses), slices.Clone(r.Acts)
	return r
}

// someRite returns a rite that is accepted: people do anything that they can, then lay down all that they hold, and where things are then is their home.
func someRite(random *rand.Rand, side, things, minutes int) api.Rite {
	r := api.Rite{Wide: 1 + random.IntN(side), Deep: 1 + random.IntN(side)}
	cells := random.Perm(r.Wide * r.Deep)
	r.People = people(cells[:1+random.IntN(min(len(cells), api.MaxPeople))]...)
	for range random.IntN(things + 1) {
		r.Things = append(r.Things, api.Thing{Cell: cells[random.IntN(len(cells))], State: random.IntN(16), Cloth: random.IntN(2) == 0})
	}
	j := judgeOf(r)
	at := random.IntN(3)
	for range minutes {
		before := j.copied()
		at = j.someMinute(random, at, before.possible)
	}
	for hand := range 2 {
		at = j.someMinute(random, at, func(who int) []api.Act {
			if _, holds := j.holds[[2]int{who, hand}]; holds {
				return []api.Act{lay(0, who, hand)}
			}
			return nil
		})
	}
	r.Acts = j.r.Acts
	for thing := range r.Things {
		r.Things[thing].Home, r.Things[thing].Want = j.lies[thing], j.stateOf(thing)
	}
	for cell := range cells {
		if random.IntN(4) == 0 {
			r.Seen = append(r.Seen, cell)
		}
	}
	for kind := 1; kind <= 3; kind++ {
		if random.IntN(3) > 0 {
			r.Lapses = append(r.Lapses, kind)
		}
	}
	return r
}

// someMinute lets people, in any order, do one act each, of those that it is told, if no other one is in the way; it returns a minute behind this one.
func (j *judge) someMinute(random *rand.Rand, at int, may func(who int) []api.Act) int {
	before := j.copied()
	touched := map[string]bool{}
	for _, who := range random.Perm(len(j.r.People)) {
		acts := may(who)
		if len(acts) == 0 || random.IntN(8) == 0 && before.hasEmptyHands(who) {
			continue
		}
		// What is seldom possible is done more often, so that people do not only step to and fro.
		kinds := []int{api.ActPour, api.ActWipe, api.ActGive, api.ActTake, acts[random.IntN(len(acts))].Kind}
		kind := kinds[random.IntN(len(kinds))]
		if few := slices.DeleteFunc(slices.Clone(acts), func(a api.Act) bool { return a.Kind != kind }); len(few) > 0 {
			acts = few
		}
		a := acts[random.IntN(len(acts))]
		a.At = at
		parts := before.touches(a)
		if !before.can(a) || slices.ContainsFunc(parts, func(p string) bool { return touched[p] }) {
			continue
		}
		for _, p := range parts {
			touched[p] = true
		}
		j.do(a)
		j.r.Acts = append(j.r.Acts, a)
	}
	return at + 1 + random.IntN(2)
}

// someRites returns so many rites that are accepted.
func someRites(random *rand.Rand, n, side, things, minutes int) []api.Rite {
	var l []api.Rite
	for len(l) < n {
		if r := someRite(random, side, things, minutes); len(r.Acts) <= api.MaxActs && judgeOf(r).isAccepted() {
			l = append(l, r)
		}
	}
	return l
}
