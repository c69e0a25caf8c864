package hearth

import (
	"iter"

	"aloeswood/api"
	"aloeswood/span"
)

// boiling is a valid kettle over the coals of a fire, with the pours for it.
type boiling struct {
	kettle api.Kettle
	coals  []ember
	pours  []api.Pour
}

// boilingOf returns a kettle over a fire; or the first error of the kettle, of the pours, and of the fire.
func boilingOf(k api.Kettle, f api.Fire, l []api.Pour) (boiling, api.Errno) {
	if e := CheckPours(k, l); e != api.OK {
		return boiling{}, e
	}
	if e := Check(f); e != api.OK {
		return boiling{}, e
	}
	return boiling{k, embers(f), l}, api.OK
}

// boilingFor returns a kettle over a fire for so many minutes; or the first error of all of them.
func boilingFor(k api.Kettle, f api.Fire, l []api.Pour, minutes int) (boiling, api.Errno) {
	b, e := boilingOf(k, f, l)
	if e == api.OK && !span.Within(minutes, 0, api.MaxHearth) {
		return boiling{}, api.ErrRange
	}
	return b, e
}

// water is how many ladles of water there are, and what is known of how warm they are.
type water struct {
	ladles int
	warm   known
}

// minutes hands out the minutes from 0 to the last one, with what is known of the warmth in each, after its pours.
func (b boiling) minutes(last int) iter.Seq2[int, known] {
	return func(yield func(int, known) bool) {
		w, pours := water{b.kettle.Water, knownOf(b.kettle.Warm)}, b.pours
		for minute := range last + 1 {
			for len(pours) > 0 && pours[0].Minute == minute {
				w, pours = w.poured(pours[0]), pours[1:]
			}
			if !yield(minute, w.warm) {
				return
			}
			w = w.heated(b.kettle, heatOf(b.coals, minute))
		}
	}
}

// poured returns the water after a pour.
func (w water) poured(p api.Pour) water {
	ladles := w.ladles + p.Ladles
	if p.Ladles > 0 {
		for end, warmth := range w.warm {
			w.warm[end] = rounded(warmth*w.ladles+p.Warm*p.Ladles, ladles, end)
		}
	}
	w.ladles = ladles
	return w
}

// heated returns the water after a minute with this heat. The more heat there is, and the warmer the water is, the warmer it is then, as no more is lost than there is above the room; so each end comes from the same ends.
func (w water) heated(k api.Kettle, heat known) water {
	for end, warmth := range w.warm {
		// All is in parts of a ladle, and of a million.
		sum := warmth*w.ladles*api.Mil + heat[end]*k.Gain*api.Mil - (warmth-k.Room)*k.Lose*w.ladles
		w.warm[end] = min(rounded(sum, w.ladles*api.Mil, end), api.MaxWarmth)
	}
	return w
}

// rounded returns a number of parts, which is not below 0, as a whole: rounded down at the one end, and up at the other one.
func rounded(number, parts, end int) int {
	if end == greatest {
		number += parts - 1
	}
	return number / parts
}

// verdict tells whether the kettle sings if this is known of its warmth.
func (b boiling) verdict(warm known) int {
	switch {
	case b.kettle.Sing <= warm[least] && warm[greatest] <= b.kettle.Boil:
		return api.Sure
	case warm[greatest] < b.kettle.Sing || b.kettle.Boil < warm[least]:
		return api.Never
	}
	return api.Open
}

// Run returns what is known of the warmth in each minute, after its pours.
func Run(k api.Kettle, f api.Fire, l []api.Pour, minutes int) ([]api.Span, api.Errno) {
	b, e := boilingFor(k, f, l, minutes)
	if e != api.OK {
		return nil, e
	}
	var warmths []api.Span
	for _, warm := range b.minutes(minutes) {
		warmths = append(warmths, warm.span())
	}
	return warmths, api.OK
}

// Sings returns the verdict for each minute.
func Sings(k api.Kettle, f api.Fire, l []api.Pour, minutes int) ([]int, api.Errno) {
	b, e := boilingFor(k, f, l, minutes)
	if e != api.OK {
		return nil, e
	}
	var verdicts []int
	for _, warm := range b.minutes(minutes) {
		verdicts = append(verdicts, b.verdict(warm))
	}
	return verdicts, api.OK
}

// When returns the first minute in which the kettle surely sings, and the first one in which it perhaps does (-1: none).
func When(k api.Kettle, f api.Fire, l []api.Pour, minutes int) (sure, perhaps int, e api.Errno) {
	const none = -1
	b, e := boilingFor(k, f, l, minutes)
	if e != api.OK {
		return 0, 0, e
	}
	perhaps = none
	for minute, warm := range b.minutes(minutes) {
		verdict := b.verdict(warm)
		if perhaps == none && verdict != api.Never {
			perhaps = minute
		}
		if verdict == api.Sure {
			return minute, perhaps, api.OK
		}
	}
	return none, perhaps, api.OK
}
