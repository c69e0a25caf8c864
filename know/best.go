package know

import (
	"iter"
	"slices"

	"aloeswood/api"
	"aloeswood/game"
)

// Decided returns the answer that is due in all courses left, and whether there is one.
func Decided(m api.Mind, a api.Ask) (answer []int, is bool, e api.Errno) {
	o, e := looked(m)
	if e != api.OK {
		return nil, false, e
	}
	for course := range o.left() {
		due, e := game.Due(m.Game, a, course)
		if e != api.OK {
			return nil, false, e
		}
		if is && !slices.Equal(answer, due) {
			return nil, false, api.OK
		}
		answer, is = due, true
	}
	return answer, is, api.OK
}

// contest is all answers of a game to an ask, and what a rule looks at in them.
type contest struct {
	answers         [][]int
	parts           [][]int // of each answer
	places, numbers int     // how many places a list of parts has at most, and how many numbers there may be at each one
	due             []int   // for each course the number of its due answer
}

// contested returns the contest of an ask about a game that takes these courses, or the first error of the ask, and of the rule.
func contested(g api.Game, a api.Ask, rule int, courses [][]int) (contest, api.Errno) {
	answers, _, e := game.Answers(g, a)
	if e != api.OK {
		return contest{}, e
	}
	if !isRule(rule) {
		return contest{}, api.ErrKind
	}
	c := contest{answers: answers}
	q := question{a, len(courses[0]), answers}
	look := q.rules()[rule]
	for _, answer := range answers {
		parts := look(answer)
		c.parts = append(c.parts, parts)
		c.places = max(c.places, len(parts))
		for _, number := range parts {
			c.numbers = max(c.numbers, number+1)
		}
	}
	for _, course := range courses {
		// The ask is valid, so there is no error; and each due answer is one of them.
		due, _ := game.Due(g, a, course)
		number, _ := slices.BinarySearchFunc(answers, due, order)
		c.due = append(c.due, number)
	}
	return c, api.OK
}

// best returns the number of the answer that is worth most, the first one of several, if courses have these weights, and what it is worth.
// It adds the weights up by parts of the due answers, not by pairs of answers: there may be thousands of these.
func (c contest) best(weights []int) (number, worth int) {
	tally := make([][]int, c.places)
	for place := range tally {
		tally[place] = make([]int, c.numbers)
	}
	for course, weight := range weights {
		for place, part := range c.parts[c.due[course]] {
			tally[place][part] += weight
		}
	}
	for answer, parts := range c.parts {
		sum := 0
		for place, part := range parts {
			sum += tally[place][part]
		}
		if sum > worth {
			number, worth = answer, sum
		}
	}
	return number, worth
}

// Best returns the answer that is worth most, the sum of what it is worth, and the sum of all weights.
func Best(m api.Mind, a api.Ask, rule int) (answer []int, sum, of int, e api.Errno) {
	o, e := looked(m)
	if e != api.OK {
		return nil, 0, 0, e
	}
	c, e := contested(m.Game, a, rule, o.courses)
	if e != api.OK {
		return nil, 0, 0, e
	}
	number, worth := c.best(o.weights)
	return c.answers[number], worth, total(o.weights), api.OK
}

// Skill returns, as a sum and of how much, what the best answer is worth on the average if the nose smells each censer.
func Skill(g api.Game, n api.Nose, a api.Ask, rule int) (sum, of int, e api.Errno) {
	courses, ways, e := game.Courses(g)
	if e != api.OK {
		return 0, 0, e
	}
	if e := checkNose(n, len(g.Woods)); e != api.OK {
		return 0, 0, e
	}
	c, e := contested(g, a, rule, courses)
	if e != api.OK {
		return 0, 0, e
	}
	censers := len(courses[0])
	if censers > api.MaxSmells || power(len(g.Woods), censers) > api.MaxSniffs {
		return 0, 0, api.ErrFull
	}
	m := api.Mind{Game: g, Noses: []api.Nose{n}}
	for smells := range sniffs(len(g.Woods), censers) {
		m.Smells = smells
		_, worth := c.best(weights(m, courses, ways))
		sum += worth
	}
	return sum, total(ways) * power(api.Tenths, censers), api.OK
}

// power returns the product of so many equal numbers.
func power(number, times int) int {
	product := 1
	for range times {
		product *= number
	}
	return product
}

// sniffs hands out all that a nose may smell of so many woods if it smells all censers. What is handed out changes afterwards.
func sniffs(woods, censers int) iter.Seq[[]api.Smell] {
	return func(yield func([]api.Smell) bool) {
		smells := make([]api.Smell, censers)
		for censer := range smells {
			smells[censer].Censer = censer
		}
		for yield(smells) {
			censer := 0
			for censer < censers && smells[censer].Wood == woods-1 {
				smells[censer].Wood = 0
				censer++
			}
			if censer == censers {
				return
			}
			smells[censer].Wood++
		}
	}
}
