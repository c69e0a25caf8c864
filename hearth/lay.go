package hearth

import (
	"slices"

	"aloeswood/api"
	"aloeswood/span"
)

// Lay returns the fewest coals with which alone the kettle surely sings in each minute from one to another; of several choices the first one.
func Lay(k api.Kettle, f api.Fire, l []api.Pour, from, to int) ([]int, api.Errno) {
	b, e := boilingOf(k, f, l)
	if e != api.OK {
		return nil, e
	}
	if !span.Within(from, 0, api.MaxHearth) || !span.Within(to, 0, api.MaxHearth) {
		return nil, api.ErrRange
	}
	if from > to {
		return nil, api.ErrOrder
	}
	if len(f.Coals) > api.MaxLaid {
		return nil, api.ErrFull
	}
	choice, found := fewest(len(f.Coals), func(choice []int) bool {
		b.coals = embers(only(f, choice))
		return b.surelySings(from, to)
	})
	if !found {
		return nil, api.ErrMissing
	}
	return choice, api.OK
}

// fewest returns the first choice of as few of n coals as can be that is enough, and whether there is one: choices of fewer coals come first, and those of equally many in lexicographic order.
func fewest(n int, isEnough func(choice []int) bool) ([]int, bool) {
	var choice []int
	// grow tells whether the choice is enough with some coals more, from one on; then it is grown by them.
	var grow func(from, more int) bool
	grow = func(from, more int) bool {
		if more == 0 {
			return isEnough(choice)
		}
		for coal := from; coal < n; coal++ {
			choice = append(choice, coal)
			if grow(coal+1, more-1) {
				return true
			}
			choice = choice[:len(choice)-1]
		}
		return false
	}
	for size := range n + 1 {
		if grow(0, size) {
			return choice, true
		}
	}
	return nil, false
}

// only returns a fire of some coals of another one, and of the touches between two of them.
func only(f api.Fire, choice []int) api.Fire {
	var few api.Fire
	for _, coal := range choice {
		few.Coals = append(few.Coals, f.Coals[coal])
	}
	for _, t := range f.Touches {
		a, b := slices.Index(choice, t.A), slices.Index(choice, t.B)
		if a >= 0 && b >= 0 {
			few.Touches = append(few.Touches, api.Touch{A: a, B: b})
		}
	}
	return few
}

// surelySings tells whether the kettle surely sings in each minute from one to another.
func (b boiling) surelySings(from, to int) bool {
	for minute, warm := range b.minutes(to) {
		if minute >= from && b.verdict(warm) != api.Sure {
			return false
		}
	}
	return true
}
