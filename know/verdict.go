package know

import (
	"iter"

	"aloeswood/api"
)

// verdict says whether something is so of all things (at least one) that are handed out, of none, or of some.
func verdict[T, With any](things iter.Seq2[T, With], is func(T) bool) int {
	yes, no := false, false
	for thing := range things {
		if is(thing) {
			yes = true
		} else {
			no = true
		}
	}
	switch {
	case !no:
		return api.Sure
	case !yes:
		return api.Never
	}
	return api.Open
}

// verdicts returns for each censer what follows for each of so many things.
func (o outlook) verdicts(things int, is func(course []int, censer, thing int) bool) [][]int {
	var l [][]int
	for censer := range o.censers {
		row := make([]int, things)
		for thing := range row {
			row[thing] = verdict(o.left(), func(course []int) bool { return is(course, censer, thing) })
		}
		l = append(l, row)
	}
	return l
}

// Sure returns for each censer the verdict for each wood: whether the censer has it.
func Sure(m api.Mind) ([][]int, api.Errno) {
	o, e := looked(m)
	if e != api.OK {
		return nil, e
	}
	return o.verdicts(o.woods, func(course []int, censer, wood int) bool { return course[censer] == wood }), api.OK
}

// Pairs returns for each censer the verdict for each censer: whether both have one wood.
func Pairs(m api.Mind) ([][]int, api.Errno) {
	o, e := looked(m)
	if e != api.OK {
		return nil, e
	}
	return o.verdicts(o.censers, func(course []int, censer, other int) bool { return course[censer] == course[other] }), api.OK
}
