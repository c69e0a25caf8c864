package game

import (
	"iter"
	"slices"

	"aloeswood/api"
)

// chances say what may be in the bags, and how many lists of picks lead to it.
type chances map[bags]int

// first are the chances before a game: all bags are empty.
func first() chances { return chances{bags{}: 1} }

// sum returns how many lists of picks there are.
func (c chances) sum() int {
	sum := 0
	for _, ways := range c {
		sum += ways
	}
	return sum
}

// after returns the chances after a deal of a plan that is no censer.
func (c chances) after(d api.Deal) chances {
	next := chances{}
	for b, ways := range c {
		switch d.Kind {
		case api.DealMix:
			next[b.mixed(d)] += ways
		case api.DealPour:
			next[b.poured(d)] += ways
		case api.DealAside:
			for wood, count := range b[d.Bag] {
				if count > 0 {
					next[b.without(d.Bag, wood)] += ways * count
				}
			}
		}
	}
	return next
}

// smelling returns the chances after a deal of a plan that is a censer, if it has this wood; none if it cannot have it.
func (c chances) smelling(d api.Deal, wood int) chances {
	if d.Kind == api.DealPlace {
		if d.Wood == wood {
			return c
		}
		return nil
	}
	next := chances{}
	for b, ways := range c {
		if count := b[d.Bag][wood]; count > 0 {
			next[b.without(d.Bag, wood)] = ways * count
		}
	}
	return next
}

// upToCenser returns the chances when the next censer of a plan comes, and the plan from this one on; the plan is empty if there is no other one.
func (c chances) upToCenser(plan []api.Deal) (chances, []api.Deal) {
	for len(plan) > 0 && plan[0].Kind != api.DealPass && plan[0].Kind != api.DealPlace {
		c, plan = c.after(plan[0]), plan[1:]
	}
	return c, plan
}

// smells returns the plan without what comes behind the last packet that is passed, but for the censers. The packets that are set aside there are in no course: they multiply the ways of each one by rest.
func (t *table) smells() []api.Deal {
	l := slices.Clone(t.plan[:t.last])
	for _, d := range t.plan[t.last:] {
		if d.Kind == api.DealPlace {
			l = append(l, d)
		}
	}
	return l
}

// rest returns in how many ways the packets are set aside that smells leaves out.
func (t *table) rest() int { return t.all / t.known }

// Ways returns how many ways a course has, and how many the game has.
func Ways(g api.Game, course []int) (ways, all int, e api.Errno) {
	t, e := dealt(g)
	if e != api.OK {
		return 0, 0, e
	}
	if e := t.checkCourse(course); e != api.OK {
		return 0, 0, e
	}
	c, plan := first(), t.smells()
	for _, wood := range course {
		c, plan = c.upToCenser(plan)
		c, plan = c.smelling(plan[0], wood), plan[1:]
	}
	return c.sum() * t.rest(), t.all, api.OK
}

// checkCourse returns the first error of a course.
func (t *table) checkCourse(course []int) api.Errno {
	if len(course) != t.censers {
		return api.ErrForm
	}
	for _, wood := range course {
		if !t.isWood(wood) {
			return api.ErrMissing
		}
	}
	return api.OK
}

// courses hands out all courses that a game may take, in order, and the ways of each.
func (t *table) courses() iter.Seq2[[]int, int] {
	return func(yield func([]int, int) bool) {
		t.branch(first(), t.smells(), nil, yield)
	}
}

// branch hands out the courses that begin so, as long as more are asked for; it tells whether they are.
func (t *table) branch(c chances, plan []api.Deal, course []int, yield func([]int, int) bool) bool {
	c, plan = c.upToCenser(plan)
	if len(plan) == 0 {
		return yield(course, c.sum()*t.rest())
	}
	for wood := range t.woods {
		next := c.smelling(plan[0], wood)
		if len(next) > 0 && !t.branch(next, plan[1:], append(slices.Clone(course), wood), yield) {
			return false
		}
	}
	return true
}

// Courses returns all courses that a game may take, in order, and the ways of each.
func Courses(g api.Game) (l [][]int, ways []int, e api.Errno) {
	t, e := dealt(g)
	if e != api.OK {
		return nil, nil, e
	}
	return t.listed()
}

// listed returns all courses and their ways, unless there are too many.
func (t *table) listed() (l [][]int, ways []int, e api.Errno) {
	for course, n := range t.courses() {
		if len(l) == api.MaxCourses {
			return nil, nil, api.ErrFull
		}
		l, ways = append(l, course), append(ways, n)
	}
	return l, ways, api.OK
}
