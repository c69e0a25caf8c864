package rite_test

import (
	"math/rand/v2"
	"slices"
	"testing"

	"aloeswood/api"
	"aloeswood/rite"
)

// P6.2, P6.6 and P6.7: the scenes of rites that are accepted are those of the judge, each person is alone in a cell, each thing is in one hand or cell, and the end is in order.
func TestScenesOfRitesThatAreAccepted(t *testing.T) {
	random := rand.New(rand.NewPCG(1, 2))
	kinds := map[int]int{}
	for _, r := range someRites(random, 600, 3, 5, 8) {
		if e := rite.Check(r); e != api.OK {
			t.Fatal(r, e)
		}
		want, _, _ := judgeOf(r).run(r.Acts)
		scenes := must[[]api.Scene](t)(rite.Scenes(r))
		if !sameAll(scenes, want) {
			t.Fatal(r, scenes, want)
		}
		for _, s := range scenes {
			isSound(t, r, s)
		}
		end, at, e := rite.Run(r)
		if e != api.OK || at != -1 || !same(end, scenes[len(scenes)-1]) {
			t.Fatal(r, end, at, e)
		}
		for i, s := range end.Things {
			if s.Cell != r.Things[i].Home || s.State != r.Things[i].Want {
				t.Fatal(r, end)
			}
		}
		for _, hands := range end.Hands {
			if hands != [2]int{-1, -1} {
				t.Fatal(r, end)
			}
		}
		for _, a := range r.Acts {
			kinds[a.Kind]++
		}
	}
	for kind := api.ActStep; kind <= api.ActOpen; kind++ {
		if kinds[kind] < 30 {
			t.Error(kinds)
		}
	}
}

// isSound fails the test if two people are in a cell of a scene, or a thing is not in just one place.
func isSound(t *testing.T, r api.Rite, s api.Scene) {
	t.Helper()
	places := make([]int, len(r.Things))
	for who, cell := range s.People {
		if cell < 0 || cell >= r.Wide*r.Deep || slices.Contains(s.People[:who], cell) {
			t.Fatal(r, s)
		}
		for _, thing := range s.Hands[who] {
			if thing != -1 {
				places[thing]++
			}
		}
	}
	for thing, spot := range s.Things {
		if spot.Cell != -1 {
			places[thing]++
		}
		if spot.Cell < -1 || spot.Cell >= r.Wide*r.Deep || places[thing] != 1 {
			t.Fatal(r, s)
		}
	}
}

// P6.2: whatever the acts are, what Run says of them is what the judge says.
func TestRunsAreJudged(t *testing.T) {
	random := rand.New(rand.NewPCG(3, 4))
	said := map[api.Errno]int{}
	for _, r := range someRites(random, 6000, 3, 4, 6) {
		r = spoiled(random, r)
		if rite.Check(r) != api.OK {
			continue
		}
		j := judgeOf(r)
		_, at, e := j.run(r.Acts)
		switch {
		case e == api.OK && !j.isInOrder():
			e = api.ErrOrder
		case e == api.OK:
			at = -1
		}
		if n, f := ends(t, r); n != at || f != e {
			t.Fatal(r, n, f, at, e)
		}
		said[e]++
	}
	if said[api.OK] < 100 || said[api.ErrState] < 100 || said[api.ErrClash] < 40 || said[api.ErrOrder] < 100 {
		t.Error(said)
	}
}

// spoiled returns a rite with some changes to its acts.
func spoiled(random *rand.Rand, r api.Rite) api.Rite {
	r = copied(r)
	for range 1 + random.IntN(2) {
		if len(r.Acts) == 0 {
			return r
		}
		i := random.IntN(len(r.Acts))
		switch random.IntN(7) {
		case 0:
			r.Acts = slices.Delete(r.Acts, i, i+1)
		case 1:
			r.Acts[i].Who = random.IntN(len(r.People))
		case 2:
			if r.Acts[i].Kind != api.ActStep {
				r.Acts[i].Hand = 1 - r.Acts[i].Hand
			}
		case 3:
			// Somebody else wants to go to the same cell, or gives something to this person.
			who := random.IntN(len(r.People))
			other := give(r.Acts[i].At, who, random.IntN(2), r.Acts[i].Who)
			if r.Acts[i].Kind == api.ActStep {
				other = step(r.Acts[i].At, who, r.Acts[i].Cell)
			}
			r.Acts = slices.Insert(r.Acts, i+random.IntN(2), other)
		case 4:
			l := forms(r, r.Acts[i].Who)
			at := r.Acts[i].At
			r.Acts[i] = l[random.IntN(len(l))]
			r.Acts[i].At = at
		default:
			// All acts from this one on come together with those before it.
			if i > 0 {
				by := r.Acts[i].At - r.Acts[i-1].At
				for k := i; k < len(r.Acts); k++ {
					r.Acts[k].At -= by
				}
			}
		}
	}
	return r
}

// P6.8

func TestActsOfAMinuteInAnyOrder(t *testing.T) {
	random := rand.New(rand.NewPCG(5, 6))
	moved := 0
	for _, r := range someRites(random, 500, 3, 4, 8) {
		other := copied(r)
		random.Shuffle(len(other.Acts), func(i, k int) { other.Acts[i], other.Acts[k] = other.Acts[k], other.Acts[i] })
		other.Acts = inOrder(other.Acts)
		if !slices.Equal(r.Acts, other.Acts) {
			moved++
		}
		if !sameAll(must[[]api.Scene](t)(rite.Scenes(r)), must[[]api.Scene](t)(rite.Scenes(other))) {
			t.Fatal(r, other)
		}
		// What is not accepted is not so in any order.
		r = spoiled(random, r)
		other = copied(r)
		random.Shuffle(len(other.Acts), func(i, k int) { other.Acts[i], other.Acts[k] = other.Acts[k], other.Acts[i] })
		other.Acts = inOrder(other.Acts)
		if e, f := rite.Check(r), rite.Check(other); e != api.OK || f != api.OK {
			continue
		}
		if _, e := rite.Scenes(r); e != api.OK {
			if _, f := rite.Scenes(other); f == api.OK {
				t.Fatal(r, other, e)
			}
		}
	}
	if moved < 100 {
		t.Error(moved)
	}
}

// P6.3

func TestLapsesAreJudged(t *testing.T) {
	random := rand.New(rand.NewPCG(7, 8))
	for _, r := range someRites(random, 300, 3, 4, 8) {
		for act, a := range r.Acts {
			for kind := 1; kind <= 3; kind++ {
				got, e := rite.Lapse(r, act, kind)
				if kind == api.LapseHand && a.Kind == api.ActStep {
					if e != api.ErrForm {
						t.Fatal(r, act, e)
					}
					continue
				}
				acts, minute := lapsed(r, act, kind)
				if e != api.OK || !sameRite(got, acting(r, acts...)) {
					t.Fatal(r, act, kind, got, e)
				}
				l := forms(r, a.Who)
				var mend []api.Act
				for range random.IntN(4) {
					mend = append(mend, l[random.IntN(len(l))])
				}
				if whole := must[api.Rite](t)(rite.Mended(r, act, kind, mend)); !sameRite(whole, acting(r, repaired(acts, minute, mend)...)) {
					t.Fatal(r, act, kind, mend, whole)
				}
			}
		}
	}
}

// P6.4, P6.5, P6.9 and P6.10: mends are the first ones of all that the judge looks at, and what results is accepted; a rite is firm if each lapse has one.
func TestNoMendIsBefore(t *testing.T) {
	random := rand.New(rand.NewPCG(9, 10))
	lengths, none, firm := [api.MaxMend + 1]int{}, 0, 0
	for _, r := range append(someRites(random, 220, 3, 3, 5), spill(0), spill(api.StateFull), riteR()) {
		first := [2]int{-1, 0}
		for act, a := range r.Acts {
			for _, kind := range r.Lapses {
				if kind == api.LapseHand && a.Kind == api.ActStep {
					continue
				}
				mend, isFound := firstMend(r, act, kind)
				got, e := rite.Mend(r, act, kind)
				if isFound != (e == api.OK) || !isFound && e != api.ErrMissing || !slices.Equal(got, mend) {
					t.Fatal(r, act, kind, got, e, mend, isFound)
				}
				if !isFound {
					none++
					if first[0] == -1 {
						first = [2]int{act, kind}
					}
					continue
				}
				lengths[len(mend)]++
				isMended(t, r, act, kind, mend)
			}
		}
		if got := firmOf(t, r); got != first {
			t.Fatal(r, got, first)
		}
		if first[0] == -1 && len(r.Lapses) > 0 && len(r.Acts) > 0 {
			firm++
		}
	}
	if slices.Min(lengths[:]) < 3 || lengths[2] < 20 || none < 100 || firm < 20 {
		t.Error(lengths, none, firm)
	}
}

// isMended fails the test unless the rite that results runs through, ends in order, and no act of the mend is seen.
func isMended(t *testing.T, r api.Rite, act, kind int, mend []api.Act) {
	t.Helper()
	whole := must[api.Rite](t)(rite.Mended(r, act, kind, mend))
	acts, minute := lapsed(r, act, kind)
	if !judgeOf(whole).isAccepted() || !isUnseen(r, acts, minute, mend) {
		t.Fatal(r, act, kind, mend, whole)
	}
	for _, a := range mend {
		if a.At != 0 || a.Who != r.Acts[act].Who || a.Seasons != 0 || a.Rank != 0 {
			t.Fatal(r, act, kind, mend)
		}
	}
	if len(whole.Acts) > api.MaxActs {
		return
	}
	if _, at, e := rite.Run(whole); at != -1 || e != api.OK {
		t.Fatal(r, act, kind, mend, at, e)
	}
}

// P6.10: all mends are looked at, also those whose acts are not possible.
func TestEachMendOfASmallRoom(t *testing.T) {
	watched := changed(func(r *api.Rite) { r.Seen = []int{0} })
	spoon := changed(func(r *api.Rite) { r.Things[0].Cloth = true })
	for _, c := range []struct {
		r         api.Rite
		act, kind int
	}{{riteR(), 0, 2}, {riteR(), 3, 2}, {riteR(), 2, 1}, {watched, 1, 1}, {spoon, 2, 2}, {pair(step(0, 0, 1), step(1, 0, 0), step(2, 1, 1)), 1, 3}} {
		mend, isFound := firstOfAll(c.r, c.act, c.kind)
		got, e := rite.Mend(c.r, c.act, c.kind)
		if isFound != (e == api.OK) || !isFound && e != api.ErrMissing || !slices.Equal(got, mend) {
			t.Error(c, got, e, mend, isFound)
		}
	}
}

// firstOfAll looks at all mends in order, and returns the first one that repairs a lapse, and whether there is one.
func firstOfAll(r api.Rite, act, kind int) (mend []api.Act, isFound bool) {
	l := forms(r, r.Acts[act].Who)
	level := [][]api.Act{nil}
	for length := range api.MaxMend + 1 {
		if i := slices.IndexFunc(level, func(mend []api.Act) bool { return repairs(r, act, kind, mend) }); i >= 0 {
			return level[i], true
		}
		var longer [][]api.Act
		for _, mend := range level {
			for _, a := range l {
				if length < api.MaxMend {
					longer = append(longer, append(slices.Clone(mend), a))
				}
			}
		}
		level = longer
	}
	return nil, false
}

// P6.11

// turned returns a rite in a room that is turned.
func turned(r api.Rite) api.Rite {
	r = copied(r)
	last := r.Wide*r.Deep - 1
	for i := range r.People {
		r.People[i].Cell = last - r.People[i].Cell
	}
	for i := range r.Things {
		r.Things[i].Cell, r.Things[i].Home = last-r.Things[i].Cell, last-r.Things[i].Home
	}
	for i := range r.Seen {
		r.Seen[i] = last - r.Seen[i]
	}
	slices.Reverse(r.Seen)
	for i := range r.Acts {
		if r.Acts[i].Kind == api.ActStep {
			r.Acts[i].Cell = last - r.Acts[i].Cell
		}
	}
	return r
}

func TestTurnedRooms(t *testing.T) {
	random := rand.New(rand.NewPCG(11, 12))
	for _, r := range someRites(random, 250, 3, 4, 6) {
		other := turned(r)
		last := r.Wide*r.Deep - 1
		scenes := must[[]api.Scene](t)(rite.Scenes(other))
		for _, s := range scenes {
			for i := range s.People {
				s.People[i] = last - s.People[i]
			}
			for i := range s.Things {
				if s.Things[i].Cell != -1 {
					s.Things[i].Cell = last - s.Things[i].Cell
				}
			}
		}
		if !sameAll(scenes, must[[]api.Scene](t)(rite.Scenes(r))) {
			t.Fatal(r, scenes)
		}
		for act := range r.Acts {
			for kind := 1; kind <= 3; kind++ {
				mend, e := rite.Mend(r, act, kind)
				same, f := rite.Mend(other, act, kind)
				if e != f || len(mend) != len(same) {
					t.Fatal(r, act, kind, mend, e, same, f)
				}
			}
		}
		if firmOf(t, r) != firmOf(t, other) {
			t.Fatal(r, other)
		}
	}
}

// P6.12

func TestWhatIsChosen(t *testing.T) {
	random := rand.New(rand.NewPCG(13, 14))
	for _, r := range someRites(random, 200, 3, 4, 8) {
		for season := range 4 {
			for rank := range 10 {
				if got := must[api.Rite](t)(rite.Choose(r, season, rank)); !sameRite(got, r) {
					t.Fatal(r, season, rank, got)
				}
			}
		}
		for i := range r.Acts {
			if random.IntN(2) == 0 {
				r.Acts[i].Seasons, r.Acts[i].Rank = random.IntN(16), random.IntN(10)
			}
		}
		for season := range 4 {
			for rank := range 10 {
				got := must[api.Rite](t)(rite.Choose(r, season, rank))
				isPart(t, r, got, season, rank)
				if again := must[api.Rite](t)(rite.Choose(got, season, rank)); !sameRite(again, got) || rite.Check(got) != api.OK {
					t.Fatal(r, season, rank, got, again)
				}
			}
		}
	}
}

// isPart fails the test unless the acts of what was chosen are those of a rite, in its order, for a season and a rank, without these.
func isPart(t *testing.T, r, got api.Rite, season, rank int) {
	t.Helper()
	left := got.Acts
	for _, a := range r.Acts {
		in := a.Seasons == 0
		for bit := range 4 {
			in = in || bit == season && a.Seasons>>bit%2 == 1
		}
		if !in || a.Rank > rank {
			continue
		}
		a.Seasons, a.Rank = 0, 0
		if len(left) == 0 || left[0] != a {
			t.Fatal(r, season, rank, got)
		}
		left = left[1:]
	}
	got.Acts = r.Acts
	if len(left) != 0 || !sameRite(got, r) {
		t.Fatal(r, season, rank, got)
	}
}
