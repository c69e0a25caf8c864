package game

import (
	"cmp"
	"slices"

	"aloeswood/api"
	"aloeswood/chart"
)

// Due returns the answer to an ask that is due in a course.
func Due(g api.Game, a api.Ask, course []int) ([]int, api.Errno) {
	t, e := dealt(g)
	if e != api.OK {
		return nil, e
	}
	if e := t.checkAsk(a); e != api.OK {
		return nil, e
	}
	if e := t.checkCourse(course); e != api.OK {
		return nil, e
	}
	return t.due(a, course), api.OK
}

// checkAsk returns the first error of an ask.
func (t *table) checkAsk(a api.Ask) api.Errno {
	switch a.Kind {
	case api.AskWhich:
		if !t.isWood(a.Wood) {
			return api.ErrMissing
		}
	case api.AskSame, api.AskNew, api.AskName, api.AskFirst, api.AskCount:
		if a.Wood != 0 {
			return api.ErrForm
		}
	default:
		return api.ErrKind
	}
	return api.OK
}

// due returns the due answer, in a new list, to a valid ask in a valid course.
func (t *table) due(a api.Ask, course []int) []int {
	switch a.Kind {
	case api.AskSame:
		// A course is never too short or too long for a partition.
		p, _ := chart.Of(course)
		return p
	case api.AskNew:
		return where(course, func(wood int) bool { return !t.tried[wood] })
	case api.AskWhich:
		return where(course, func(wood int) bool { return wood == a.Wood })
	case api.AskFirst:
		return comers(course)
	case api.AskCount:
		counts := make([]int, t.woods)
		for _, wood := range course {
			counts[wood]++
		}
		return counts
	}
	return slices.Clone(course)
}

// where returns the numbers of the censers whose wood is as asked.
func where(course []int, is func(wood int) bool) []int {
	var l []int
	for censer, wood := range course {
		if is(wood) {
			l = append(l, censer)
		}
	}
	return l
}

// comers returns the woods of a course, each once, in the order in which they come first.
func comers(course []int) []int {
	var l []int
	for _, wood := range course {
		if !slices.Contains(l, wood) {
			l = append(l, wood)
		}
	}
	return l
}

// Answers returns all answers to an ask that are due in courses that the game may take, in order, and how many ways the courses of each have together.
func Answers(g api.Game, a api.Ask) (l [][]int, ways []int, e api.Errno) {
	t, e := dealt(g)
	if e != api.OK {
		return nil, nil, e
	}
	if e := t.checkAsk(a); e != api.OK {
		return nil, nil, e
	}
	courses, each, e := t.listed()
	if e != api.OK {
		return nil, nil, e
	}
	type answer struct {
		list []int
		ways int
	}
	var all []answer
	for i, course := range courses {
		all = append(all, answer{t.due(a, course), each[i]})
	}
	slices.SortFunc(all, func(x, y answer) int { return order(x.list, y.list) })
	for i, x := range all {
		if i == 0 || order(all[i-1].list, x.list) != 0 {
			l, ways = append(l, x.list), append(ways, 0)
		}
		ways[len(ways)-1] += x.ways
	}
	return l, ways, api.OK
}

// order is below 0 if the list a comes before b, 0 if they are equal, above 0 if it comes behind: a shorter list comes first.
func order[T cmp.Ordered](a, b []T) int {
	return cmp.Or(cmp.Compare(len(a), len(b)), slices.Compare(a, b))
}
