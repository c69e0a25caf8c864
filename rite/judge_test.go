package rite_test

import (
	"cmp"
	"maps"
	"slices"
	"strconv"

	"aloeswood/api"
)

// judge is a room in the words of the chapter, by which the package is judged: what is said of each thing and each hand is kept by itself.
type judge struct {
	r     api.Rite
	cell  map[int]int    // of each person
	holds map[[2]int]int // the thing in a hand of a person
	lies  map[int]int    // the cell of a thing that is in no hand
	is    map[[2]int]bool
}

// judgeOf returns the judge at the beginning of a rite.
func judgeOf(r api.Rite) *judge {
	j := &judge{r: r, cell: map[int]int{}, holds: map[[2]int]int{}, lies: map[int]int{}, is: map[[2]int]bool{}}
	for who, p := range r.People {
		j.cell[who] = p.Cell
	}
	for thing, t := range r.Things {
		j.lies[thing] = t.Cell
		for bit := range 4 {
			j.is[[2]int{thing, 1 << bit}] = t.State>>bit%2 == 1
		}
	}
	return j
}

// copied returns a judge that is equal, and apart.
func (j *judge) copied() *judge {
	return &judge{j.r, maps.Clone(j.cell), maps.Clone(j.holds), maps.Clone(j.lies), maps.Clone(j.is)}
}

// stateOf returns all states of a thing.
func (j *judge) stateOf(thing int) int {
	state := 0
	for bit := range 4 {
		if j.is[[2]int{thing, 1 << bit}] {
			state += 1 << bit
		}
	}
	return state
}

func (j *judge) hasEmptyHands(who int) bool {
	_, left := j.holds[[2]int{who, 0}]
	_, right := j.holds[[2]int{who, 1}]
	return !left && !right
}

// near tells whether two cells are neighbours.
func (j *judge) near(a, b int) bool {
	for _, l := range [][2]int{{a, b}, {b, a}} {
		below := l[1]-l[0] == j.r.Wide
		behind := l[1]-l[0] == 1 && l[1]%j.r.Wide != 0
		if below || behind {
			return true
		}
	}
	return false
}

// can tells whether an act is possible.
func (j *judge) can(a api.Act) bool {
	thing, holds := j.holds[[2]int{a.Who, a.Hand}]
	other, holdsOther := j.holds[[2]int{a.Who, 1 - a.Hand}]
	full, covered := j.is[[2]int{thing, 2}], j.is[[2]int{thing, 4}]
	switch a.Kind {
	case 1:
		for _, cell := range j.cell {
			if cell == a.Cell {
				return false
			}
		}
		return j.near(j.cell[a.Who], a.Cell)
	case 2:
		cell, lies := j.lies[a.Thing]
		return !holds && lies && cell == j.cell[a.Who]
	case 3:
		return holds
	case 4:
		_, left := j.holds[[2]int{a.Other, 0}]
		_, right := j.holds[[2]int{a.Other, 1}]
		return holds && j.near(j.cell[a.Who], j.cell[a.Other]) && !(left && right)
	case 5:
		return holds && j.r.Things[thing].Cloth && holdsOther
	case 6:
		return holds && full && !covered && holdsOther && !j.is[[2]int{other, 2}] && !j.is[[2]int{other, 4}]
	case 7:
		return holds && !covered
	}
	return holds && covered
}

// touches returns the names of all that an act touches that is possible.
func (j *judge) touches(a api.Act) []string {
	thing := j.holds[[2]int{a.Who, a.Hand}]
	names := []string{"person" + strconv.Itoa(a.Who)}
	switch a.Kind {
	case 1:
		return append(names, "cell"+strconv.Itoa(j.cell[a.Who]), "cell"+strconv.Itoa(a.Cell))
	case 2:
		return append(names, "thing"+strconv.Itoa(a.Thing))
	case 4:
		names = append(names, "person"+strconv.Itoa(a.Other))
	case 5, 6:
		names = append(names, "thing"+strconv.Itoa(j.holds[[2]int{a.Who, 1 - a.Hand}]))
	}
	return append(names, "thing"+strconv.Itoa(thing))
}

// do does an act that is possible.
func (j *judge) do(a api.Act) {
	hand := [2]int{a.Who, a.Hand}
	thing, other := j.holds[hand], j.holds[[2]int{a.Who, 1 - a.Hand}]
	switch a.Kind {
	case 1:
		j.cell[a.Who] = a.Cell
	case 2:
		delete(j.lies, a.Thing)
		j.holds[hand] = a.Thing
	case 3:
		delete(j.holds, hand)
		j.lies[thing] = j.cell[a.Who]
	case 4:
		delete(j.holds, hand)
		theirs := [2]int{a.Other, 0}
		if _, holds := j.holds[theirs]; holds {
			theirs[1] = 1
		}
		j.holds[theirs] = thing
	case 5:
		j.is[[2]int{other, 1}] = true
	case 6:
		j.is[[2]int{thing, 2}], j.is[[2]int{thing, 1}], j.is[[2]int{other, 2}] = false, false, true
	case 7:
		j.is[[2]int{thing, 4}] = true
	case 8:
		j.is[[2]int{thing, 4}] = false
	}
}

// scene returns what the judge sees.
func (j *judge) scene() api.Scene {
	var s api.Scene
	for who := range j.r.People {
		hands := [2]int{-1, -1}
		for hand := range 2 {
			if thing, holds := j.holds[[2]int{who, hand}]; holds {
				hands[hand] = thing
			}
		}
		s.People, s.Hands = append(s.People, j.cell[who]), append(s.Hands, hands)
	}
	for thing := range j.r.Things {
		cell, lies := j.lies[thing]
		if !lies {
			cell = -1
		}
		s.Things = append(s.Things, api.Spot{Cell: cell, State: j.stateOf(thing)})
	}
	return s
}

// run does all acts, and returns all scenes, or the number of the act that is in the way, and why.
func (j *judge) run(acts []api.Act) (scenes []api.Scene, at int, e api.Errno) {
	scenes = []api.Scene{j.scene()}
	before, touched := j.copied(), map[string]bool{}
	for i, a := range acts {
		if i > 0 && a.At != acts[i-1].At {
			scenes = append(scenes, j.scene())
			before, touched = j.copied(), map[string]bool{}
		}
		if !before.can(a) {
			return nil, i, api.ErrState
		}
		for _, name := range before.touches(a) {
			if touched[name] {
				return nil, i, api.ErrClash
			}
			touched[name] = true
		}
		j.do(a)
	}
	if len(acts) > 0 {
		scenes = append(scenes, j.scene())
	}
	return scenes, len(acts), api.OK
}

// isInOrder tells whether the end is in order now.
func (j *judge) isInOrder() bool {
	for thing, t := range j.r.Things {
		if cell, lies := j.lies[thing]; !lies || cell != t.Home || j.stateOf(thing) != t.Want {
			return false
		}
	}
	return len(j.holds) == 0
}

// isAccepted tells whether all acts of the rite can be done, and end in order.
func (j *judge) isAccepted() bool {
	_, _, e := j.run(j.r.Acts)
	return e == api.OK && j.isInOrder()
}

// forms returns all acts of somebody that a mend may have, in order.
func forms(r api.Rite, who int) []api.Act {
	var l []api.Act
	for other := range r.People {
		for hand := range 2 {
			if other != who {
				l = append(l, give(0, who, hand, other))
			}
		}
	}
	for hand := range 2 {
		l = append(l, open(0, who, hand), wipe(0, who, hand), cover(0, who, hand), lay(0, who, hand), pour(0, who, hand))
		for thing := range r.Things {
			l = append(l, take(0, who, hand, thing))
		}
	}
	for cell := range r.Wide * r.Deep {
		l = append(l, step(0, who, cell))
	}
	slices.SortFunc(l, compare)
	return l
}

// compare compares two acts of mends.
func compare(a, b api.Act) int {
	return cmp.Or(a.Kind-b.Kind, a.Hand-b.Hand, a.Thing-b.Thing, a.Cell-b.Cell, a.Other-b.Other)
}

// possible returns the acts of somebody that are possible now, in order.
func (j *judge) possible(who int) []api.Act {
	return slices.DeleteFunc(forms(j.r, who), func(a api.Act) bool { return !j.can(a) })
}

// lapsed returns the acts that a lapse makes of an accepted rite, and the minute of the lapse.
func lapsed(r api.Rite, act, kind int) (acts []api.Act, minute int) {
	a := r.Acts[act]
	minute = a.At
	before := judgeOf(r)
	var early []api.Act
	for _, b := range r.Acts {
		if b.At < a.At {
			early = append(early, b)
		}
	}
	before.run(early)
	other := a
	other.Hand = 1 - a.Hand
	for i, b := range r.Acts {
		switch {
		case kind == api.LapseLate && i >= act && b.Who == a.Who:
			b.At++
		case kind == api.LapseHand && i == act && before.can(other):
			b = other
		case kind != api.LapseLate && i == act:
			continue
		}
		acts = append(acts, b)
	}
	if kind == api.LapseLate {
		minute++
	}
	return inOrder(acts), minute
}

// inOrder returns acts in the order of their At, those of one minute in the order in which they stood.
func inOrder(acts []api.Act) []api.Act {
	var l []api.Act
	for at := 0; len(l) < len(acts); at++ {
		for _, a := range acts {
			if a.At == at {
				l = append(l, a)
			}
		}
	}
	return l
}

// repaired returns acts with a mend behind a minute.
func repaired(acts []api.Act, minute int, mend []api.Act) []api.Act {
	var l []api.Act
	for _, a := range acts {
		if a.At > minute {
			a.At += len(mend)
		}
		l = append(l, a)
	}
	for i, a := range mend {
		a.At = minute + 1 + i
		l = append(l, a)
	}
	return inOrder(l)
}

// isUnseen tells whether somebody is in no cell that guests watch, before and behind each act of a mend.
func isUnseen(r api.Rite, acts []api.Act, minute int, mend []api.Act) bool {
	if len(mend) == 0 {
		return true
	}
	var early []api.Act
	for _, a := range acts {
		if a.At <= minute {
			early = append(early, a)
		}
	}
	j := judgeOf(r)
	j.run(early)
	seen := slices.Contains(r.Seen, j.cell[mend[0].Who])
	for _, a := range mend {
		j.do(a)
		seen = seen || slices.Contains(r.Seen, j.cell[a.Who])
	}
	return !seen
}

// repairs tells whether a mend repairs a lapse.
func repairs(r api.Rite, act, kind int, mend []api.Act) bool {
	acts, minute := lapsed(r, act, kind)
	whole := acting(r, repaired(acts, minute, mend)...)
	return judgeOf(whole).isAccepted() && isUnseen(r, acts, minute, mend)
}

// firstMend looks at all mends in order whose acts are possible, and returns the first one that repairs a lapse, and whether there is one.
func firstMend(r api.Rite, act, kind int) (mend []api.Act, isFound bool) {
	acts, minute := lapsed(r, act, kind)
	early := slices.DeleteFunc(slices.Clone(acts), func(a api.Act) bool { return a.At > minute })
	begun := judgeOf(r)
	if _, _, e := begun.run(early); e != api.OK {
		return nil, false
	}
	level := [][]api.Act{nil}
	for length := range api.MaxMend + 1 {
		var longer [][]api.Act
		for _, mend := range level {
			if repairs(r, act, kind, mend) {
				return mend, true
			}
			if length == api.MaxMend {
				continue
			}
			j := begun.copied()
			for _, a := range mend {
				j.do(a)
			}
			for _, a := range j.possible(r.Acts[act].Who) {
				longer = append(longer, append(slices.Clone(mend), a))
			}
		}
		level = longer
	}
	return nil, false
}
