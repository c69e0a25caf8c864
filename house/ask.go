package house

import (
	"strconv"

	"aloeswood/api"
	"aloeswood/hearth"
	"aloeswood/rite"
)

// seasons is how many seasons there are.
const seasons = 4

// verdicts returns the words for what follows.
func verdicts() map[int]string {
	return map[int]string{api.Sure: "sure", api.Never: "never", api.Open: "open"}
}

func (w *work) sing(s said) ([]string, api.Errno) {
	minute := s.numbers[0]
	l, e := hearth.Sings(w.house.Kettle, w.house.Fire, w.house.Pours, minute)
	if e != api.OK {
		return nil, e
	}
	return []string{verdicts()[l[minute]]}, api.OK
}

func (w *work) rite(s said) ([]string, api.Errno) {
	// The rite is valid, so the only error is that there is no such rank.
	r, e := rite.Choose(w.house.Rite, w.Day/api.SeasonDays%seasons, s.numbers[0])
	if e != api.OK {
		return nil, e
	}
	act, lapse, e := rite.Firm(r)
	if e != api.OK {
		return nil, e
	}
	if act == none {
		return []string{"firm"}, api.OK
	}
	return []string{"lapse", strconv.Itoa(act), strconv.Itoa(lapse)}, api.OK
}
