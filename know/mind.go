package know

import (
	"slices"

	"aloeswood/api"
)

// check returns the first error of the noses, the smells and the facts of a mind.
func (o outlook) check(m api.Mind) api.Errno {
	if len(m.Noses) > api.MaxNoses {
		return api.ErrFull
	}
	for _, n := range m.Noses {
		if e := checkNose(n, o.woods); e != api.OK {
			return e
		}
	}
	if e := o.checkSmells(m.Smells, len(m.Noses)); e != api.OK {
		return e
	}
	return o.checkFacts(m.Facts)
}

// isOne tells whether a number is that of one of so many things.
func isOne(number, things int) bool { return number >= 0 && number < things }

// checkNose returns the first error of a nose for a game of so many woods.
func checkNose(n api.Nose, woods int) api.Errno {
	if len(n.Take) != woods {
		return api.ErrForm
	}
	for _, row := range n.Take {
		if len(row) != woods {
			return api.ErrForm
		}
		for _, cases := range row {
			if cases < 0 || cases > api.Tenths {
				return api.ErrRange
			}
		}
		if total(row) != api.Tenths {
			return api.ErrForm
		}
	}
	return api.OK
}

// checkSmells returns the first error of what so many noses smelled.
func (o outlook) checkSmells(smells []api.Smell, noses int) api.Errno {
	if len(smells) > api.MaxSmells {
		return api.ErrFull
	}
	for i, s := range smells {
		if !isOne(s.Nose, noses) || !isOne(s.Censer, o.censers) || !isOne(s.Wood, o.woods) {
			return api.ErrMissing
		}
		if slices.ContainsFunc(smells[:i], func(before api.Smell) bool {
			return before.Nose == s.Nose && before.Censer == s.Censer
		}) {
			return api.ErrExists
		}
	}
	return api.OK
}

// checkFacts returns the first error of facts.
func (o outlook) checkFacts(facts []api.Fact) api.Errno {
	if len(facts) > api.MaxFacts {
		return api.ErrFull
	}
	for _, f := range facts {
		if f.Kind < api.FactIs || f.Kind > api.FactOther {
			return api.ErrKind
		}
		things := o.woods
		if isOfTwo(f) {
			things = o.censers
		}
		if !isOne(f.A, o.censers) || !isOne(f.B, things) {
			return api.ErrMissing
		}
		if isOfTwo(f) && f.A == f.B {
			return api.ErrForm
		}
	}
	return api.OK
}

// isOfTwo tells whether a fact is about two censers, so that B is one, too.
func isOfTwo(f api.Fact) bool { return f.Kind == api.FactSame || f.Kind == api.FactOther }
