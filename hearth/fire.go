package hearth

import (
	"aloeswood/api"
	"aloeswood/span"
)

// ember is what is known of a coal in a fire: when it begins to burn, for how many minutes it burns, and how much heat it gives in each.
type ember struct{ begins, burn, heat known }

// catching returns how long a coal takes to catch from one that it touches, from A to B, where it can: at one end of what is known, either if each one catches soonest and burns longest, or the other way round.
func catching(f api.Fire, end int) map[api.Touch]int {
	times := map[api.Touch]int{}
	for _, t := range f.Touches {
		for _, way := range [...]api.Touch{t, {A: t.B, B: t.A}} {
			time := knownOf(f.Coals[way.B].Catch)[end]
			if time <= knownOf(f.Coals[way.A].Burn)[other(end)] {
				times[way] = time
			}
		}
	}
	return times
}

// beginning returns in which minute each coal begins to burn, at one end of what is known.
func beginning(f api.Fire, end int) []int {
	begins := make([]int, len(f.Coals))
	for i, c := range f.Coals {
		if !c.Lit {
			begins[i] = api.Unlit
		}
	}
	times := catching(f, end)
	// The fire goes from coal to coal, to each one at most once; so as many rounds are enough, in whichever order the times are looked at.
	for range f.Coals {
		for way, time := range times {
			begins[way.B] = min(begins[way.B], begins[way.A]+time)
		}
	}
	return begins
}

// embers returns what is known of each coal of a valid fire.
func embers(f api.Fire) []ember {
	soonest, latest := beginning(f, least), beginning(f, greatest)
	l := make([]ember, len(f.Coals))
	for i, c := range f.Coals {
		l[i] = ember{known{least: soonest[i], greatest: latest[i]}, knownOf(c.Burn), knownOf(c.Heat)}
	}
	return l
}

// given returns what is known of the heat that a coal gives in a minute.
func (e ember) given(minute int) known {
	var heat known
	// It surely burns.
	if e.begins[greatest] <= minute && minute < e.begins[least]+e.burn[least] {
		heat[least] = e.heat[least]
	}
	// It perhaps burns; Unlit, which stands for never, is behind all minutes.
	if e.begins[least] <= minute && minute < e.begins[greatest]+e.burn[greatest] {
		heat[greatest] = e.heat[greatest]
	}
	return heat
}

// added returns what is known of the sum of heats.
func added(heats ...known) known {
	var sum known
	for _, heat := range heats {
		sum[least] += heat[least]
		sum[greatest] += heat[greatest]
	}
	return sum
}

// heatOf returns what is known of the heat that coals give in a minute.
func heatOf(coals []ember, minute int) known {
	heats := make([]known, len(coals))
	for i, coal := range coals {
		heats[i] = coal.given(minute)
	}
	return added(heats...)
}

// Begins returns when each coal begins to burn.
func Begins(f api.Fire) ([]api.Span, api.Errno) {
	if e := Check(f); e != api.OK {
		return nil, e
	}
	var l []api.Span
	for _, coal := range embers(f) {
		l = append(l, coal.begins.span())
	}
	return l, api.OK
}

// Heat returns the heat in a minute.
func Heat(f api.Fire, minute int) (api.Span, api.Errno) {
	if e := Check(f); e != api.OK {
		return api.Span{}, e
	}
	if !span.Within(minute, 0, api.MaxHearth) {
		return api.Span{}, api.ErrRange
	}
	return heatOf(embers(f), minute).span(), api.OK
}
