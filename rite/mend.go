package rite

import (
	"iter"
	"slices"

	"aloeswood/api"
)

// Mend returns the first mend in order that repairs a lapse.
func Mend(r api.Rite, act, kind int) ([]api.Act, api.Errno) {
	l, e := slipped(r, act, kind)
	if e != api.OK {
		return nil, e
	}
	s := firstScene(r)
	if _, e := s.passAll(l.before); e != api.OK {
		// No mend comes in time.
		return nil, api.ErrMissing
	}
	if mend, isFound := s.mend(l); isFound {
		return mend, api.OK
	}
	return nil, api.ErrMissing
}

// mend returns the first mend in order for a slip in whose minute the room has come to this scene.
func (s scene) mend(l slip) (mend []api.Act, isFound bool) {
	var repairs func(now scene, left int) bool
	repairs = func(now scene, left int) bool {
		if left == 0 {
			return now.endsInOrder(l.behind)
		}
		for a := range now.possible(l.who) {
			next := now
			next.do(a)
			if now.isSeen(l.who) || next.isSeen(l.who) {
				continue
			}
			mend = append(mend, a)
			if repairs(next, left-1) {
				return true
			}
			mend = mend[:len(mend)-1]
		}
		return false
	}
	for length := range api.MaxMend + 1 {
		if repairs(s, length) {
			return mend, true
		}
	}
	return nil, false
}

// isSeen tells whether somebody is in a cell that guests watch.
func (s *scene) isSeen(who int) bool { return slices.Contains(s.room.rite.Seen, s.people[who]) }

// endsInOrder tells whether acts can be done from this scene on, and lead to order. The scene itself stays.
func (s scene) endsInOrder(acts []api.Act) bool {
	_, e := s.passAll(acts)
	return e == api.OK && s.isInOrder()
}

// possible hands out the acts of somebody that are possible in a scene, in order.
func (s *scene) possible(who int) iter.Seq[api.Act] {
	return func(yield func(api.Act) bool) {
		for a := range s.room.acts(who) {
			if s.isPossible(a) && !yield(a) {
				return
			}
		}
	}
}

// acts hands out all acts of somebody that have a kind and its fields, in order.
func (r *room) acts(who int) iter.Seq[api.Act] {
	// values returns how many values a field has: 0 alone if the kind does not name it.
	values := func(isNamed bool, all int) int {
		if isNamed {
			return all
		}
		return 1
	}
	return func(yield func(api.Act) bool) {
		for kind := api.ActStep; kind <= api.ActOpen; kind++ {
			c := r.crafts[kind]
			for hand := range values(c.hand, 2) {
				for thing := range values(c.thing, len(r.rite.Things)) {
					for cell := range values(c.cell, cells(r.rite)) {
						for other := range values(c.other, len(r.rite.People)) {
							if !yield(api.Act{Who: who, Kind: kind, Hand: hand, Thing: thing, Cell: cell, Other: other}) {
								return
							}
						}
					}
				}
			}
		}
	}
}

// Firm returns the first act, and the first kind of its lapses that may happen, for which there is no mend; -1 and 0 if there is none.
func Firm(r api.Rite) (act, kind int, e api.Errno) {
	if _, _, e := Run(r); e != api.OK {
		return 0, 0, e
	}
	for i, a := range r.Acts {
		for _, kind := range r.Lapses {
			if kind == api.LapseHand && !hasHand(a) {
				continue
			}
			if _, e := Mend(r, i, kind); e == api.ErrMissing {
				return i, kind, api.OK
			}
		}
	}
	return -1, 0, api.OK
}
