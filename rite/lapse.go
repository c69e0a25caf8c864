package rite

import (
	"cmp"
	"slices"

	"aloeswood/api"
	"aloeswood/span"
)

// slip is what a lapse makes of an accepted rite.
type slip struct {
	who, minute    int       // whose lapse it is, and its minute
	before, behind []api.Act // the acts up to the end of this minute, and those behind it
}

// slipped returns what a lapse makes of a rite, or the first error of the rite and the lapse.
func slipped(r api.Rite, act, kind int) (slip, api.Errno) {
	if _, _, e := Run(r); e != api.OK {
		return slip{}, e
	}
	if !isOne(act, len(r.Acts)) {
		return slip{}, api.ErrMissing
	}
	if !span.Within(kind, api.LapseSkip, api.LapseLate) {
		return slip{}, api.ErrKind
	}
	if kind == api.LapseHand && !hasHand(r.Acts[act]) {
		return slip{}, api.ErrForm
	}
	who, minute := r.Acts[act].Who, r.Acts[act].At
	var acts []api.Act
	switch kind {
	case api.LapseSkip:
		acts = without(r.Acts, act)
	case api.LapseHand:
		acts = otherHand(r, act)
	case api.LapseLate:
		acts = late(r.Acts, act)
		minute++
	}
	n := upTo(minute, acts)
	return slip{who, minute, acts[:n], acts[n:]}, api.OK
}

// upTo returns how many acts there are in the minutes up to one.
func upTo(minute int, acts []api.Act) int {
	n := 0
	for n < len(acts) && acts[n].At <= minute {
		n++
	}
	return n
}

// hasHand tells whether the kind of an act names a hand.
func hasHand(a api.Act) bool { return crafts()[a.Kind].hand }

// without returns the acts but for one.
func without(acts []api.Act, act int) []api.Act {
	return slices.Delete(slices.Clone(acts), act, act+1)
}

// otherHand returns the acts of an accepted rite with one of them done with the other hand, or, if it is not possible so, without it.
func otherHand(r api.Rite, act int) []api.Act {
	a := inOtherHand(r.Acts[act])
	s := firstScene(r)
	s.passAll(r.Acts[:upTo(a.At-1, r.Acts)])
	if !s.isPossible(a) {
		return without(r.Acts, act)
	}
	acts := slices.Clone(r.Acts)
	acts[act] = a
	return acts
}

// late returns the acts with one of them, and all those of its person behind it, a minute later.
func late(acts []api.Act, act int) []api.Act {
	who := acts[act].Who
	l := slices.Clone(acts)
	for i := act; i < len(l); i++ {
		if l[i].Who == who {
			l[i].At++
		}
	}
	slices.SortStableFunc(l, func(a, b api.Act) int { return cmp.Compare(a.At, b.At) })
	return l
}

// Lapse returns the rite in which a lapse has happened.
func Lapse(r api.Rite, act, kind int) (api.Rite, api.Errno) {
	s, e := slipped(r, act, kind)
	if e != api.OK {
		return api.Rite{}, e
	}
	return with(r, s.mended(nil)), api.OK
}

// Mended returns the rite in which a lapse has happened, and a mend for it is done.
func Mended(r api.Rite, act, kind int, mend []api.Act) (api.Rite, api.Errno) {
	s, e := slipped(r, act, kind)
	if e != api.OK {
		return api.Rite{}, e
	}
	if e := checkMend(r, s.who, mend); e != api.OK {
		return api.Rite{}, e
	}
	return with(r, s.mended(mend)), api.OK
}

// checkMend returns the first error of a mend for a lapse of somebody.
func checkMend(r api.Rite, who int, mend []api.Act) api.Errno {
	if len(mend) > api.MaxMend {
		return api.ErrFull
	}
	for _, a := range mend {
		if a.Who != who {
			return api.ErrMissing
		}
		if a.At != 0 || a.Seasons != 0 || a.Rank != 0 {
			return api.ErrForm
		}
		if e := checkCraft(r, a); e != api.OK {
			return e
		}
	}
	return api.OK
}

// mended returns all acts, with those of a mend in the minutes behind the lapse.
func (s slip) mended(mend []api.Act) []api.Act {
	acts := slices.Clone(s.before)
	for i, a := range mend {
		a.At = s.minute + 1 + i
		acts = append(acts, a)
	}
	for _, a := range s.behind {
		a.At += len(mend)
		acts = append(acts, a)
	}
	return acts
}
