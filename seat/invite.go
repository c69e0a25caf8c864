package seat

import (
	"aloeswood/api"
	"aloeswood/span"
)

// Invite returns the guests, at most as many as there are seats, who keep all bonds and have the greatest honour: of several lists the first one of the fewest guests; and this honour.
func Invite(l []api.Guest, bonds []api.Bond, seats int) (list []int, honour int, e api.Errno) {
	if e := checkBonds(l, bonds); e != api.OK {
		return nil, 0, e
	}
	if !span.Within(seats, 0, api.MaxSeats) {
		return nil, 0, api.ErrRange
	}
	// If nobody is invited, all bonds are kept.
	for invited := range bits(1) << len(l) {
		guests := invited.list()
		if len(guests) > seats || !keepsAll(invited, bonds) {
			continue
		}
		now := honourOf(l, guests)
		if now > honour || now == honour && comesFirst(guests, list) {
			list, honour = guests, now
		}
	}
	return list, honour, api.OK
}

// checkBonds returns the first error of guests who may be invited, and of bonds between them.
func checkBonds(l []api.Guest, bonds []api.Bond) api.Errno {
	if e := checkKnown(l); e != api.OK {
		return e
	}
	if len(bonds) > api.MaxBonds {
		return api.ErrFull
	}
	for _, b := range bonds {
		switch {
		case b.Kind != api.BondFeud && b.Kind != api.BondWith:
			return api.ErrKind
		case !span.Within(b.A, 0, len(l)-1) || !span.Within(b.B, 0, len(l)-1):
			return api.ErrMissing
		case b.A == b.B:
			return api.ErrForm
		}
	}
	return api.OK
}

// checkKnown returns the first error of guests who are known.
func checkKnown(l []api.Guest) api.Errno {
	if len(l) > api.MaxKnown {
		return api.ErrFull
	}
	return checkGuests(l)
}

// keepsAll tells whether the invited guests keep all bonds.
func keepsAll(invited bits, bonds []api.Bond) bool {
	for _, b := range bonds {
		// Whoever has a feud must not come with the other one, who else has a bond must.
		if invited.has(b.A) && invited.has(b.B) == (b.Kind == api.BondFeud) {
			return false
		}
	}
	return true
}

// honourOf returns the honour of some guests together.
func honourOf(l []api.Guest, guests []int) int {
	var honours []int
	for _, guest := range guests {
		honours = append(honours, l[guest].Honour)
	}
	return sum(honours...)
}
