package know

import (
	"cmp"
	"slices"

	"aloeswood/api"
	"aloeswood/game"
)

// question is an ask about a game of so many censers, and the answers that may be due, in order.
type question struct {
	ask     api.Ask
	censers int
	answers [][]int
}

// isRule tells whether there is such a rule.
func isRule(rule int) bool { return rule == api.PointWhole || rule == api.PointEach }

// rules returns what the rules look at in an answer, by their numbers: an answer is worth a point for each place at which the same is found as in the due answer.
func (q question) rules() [api.PointEach + 1]func(answer []int) []int {
	return [...]func([]int) []int{
		api.PointWhole: q.whole,
		api.PointEach:  q.each,
	}
}

// whole returns one number: which one of the answers that may be due it is; -1 for none of them.
func (q question) whole(answer []int) []int {
	number, found := slices.BinarySearchFunc(q.answers, answer, order)
	if !found {
		number = -1
	}
	return []int{number}
}

// order is below 0 if the list a comes before b, 0 if they are equal, above 0 if it comes behind: a shorter list comes first.
func order(a, b []int) int {
	return cmp.Or(cmp.Compare(len(a), len(b)), slices.Compare(a, b))
}

// each returns the parts of an answer: for each two censers whether they are the same; for each censer whether it is named; or the numbers of the answer themselves.
func (q question) each(answer []int) []int {
	switch q.ask.Kind {
	case api.AskSame:
		var pairs []int
		for i, number := range answer {
			for _, before := range answer[:i] {
				pairs = append(pairs, oneIf(number == before))
			}
		}
		return pairs
	case api.AskNew, api.AskWhich:
		named := make([]int, q.censers)
		for censer := range named {
			named[censer] = oneIf(slices.Contains(answer, censer))
		}
		return named
	}
	return answer
}

// oneIf is 1 if something is so, otherwise 0.
func oneIf(is bool) int {
	if is {
		return 1
	}
	return 0
}

// Points returns how many points an answer is worth in a course.
func Points(g api.Game, a api.Ask, rule int, answer, course []int) (int, api.Errno) {
	due, e := game.Due(g, a, course)
	if e != api.OK {
		return 0, e
	}
	if !isRule(rule) {
		return 0, api.ErrKind
	}
	if isFixed(a.Kind) && len(answer) != len(due) {
		return 0, api.ErrForm
	}
	q := question{a, len(course), [][]int{due}}
	parts := q.rules()[rule]
	mine, right := parts(answer), parts(due)
	points := 0
	for place := range min(len(mine), len(right)) {
		points += oneIf(mine[place] == right[place])
	}
	return points, api.OK
}

// isFixed tells whether all answers to asks of a kind are as long, so that others cannot be given.
func isFixed(kind int) bool {
	return kind == api.AskSame || kind == api.AskName || kind == api.AskCount
}
