package store_test

import (
	"slices"

	"aloeswood/api"
)

// This is a judge of what the package says: it looks at all stories, all lists of loans and all plans, as the chapter words them.

// story is an order of the links of a chain, the day on which the thing was made, and a day for each link, by the numbers of the links.
type story struct {
	order []int
	made  int
	days  []int
}

// holder returns who holds the thing of a chain on a day.
func (s story) holder(c api.Chain, day int) int {
	if day < s.made {
		return -1
	}
	holder := c.Maker
	for _, i := range s.order {
		if s.days[i] <= day {
			holder = c.Links[i].To
		}
	}
	return holder
}

// allOrders returns all orders of so many links, in lexicographic order.
func allOrders(links int) [][]int {
	l := [][]int{{}}
	for number := range links {
		var longer [][]int
		for _, order := range l {
			for place := range len(order) + 1 {
				longer = append(longer, slices.Insert(slices.Clone(order), place, number))
			}
		}
		l = longer
	}
	slices.SortFunc(l, slices.Compare[[]int])
	return l
}

// leads tells whether in an order of the links of a chain the first one is from the Maker, and each other one from the owner to whom the link before it went.
func leads(c api.Chain, order []int) bool {
	owner := c.Maker
	for _, i := range order {
		if c.Links[i].From != owner {
			return false
		}
		owner = c.Links[i].To
	}
	return true
}

// allStories hands all stories of a chain to a function; a story that was handed out is changed afterwards.
func allStories(c api.Chain, take func(s story)) {
	for _, order := range allOrders(len(c.Links)) {
		if !leads(c, order) {
			continue
		}
		s := story{order: order, days: make([]int, len(order))}
		// date takes a day for each link from a place of the order on, each greater than the day before it.
		var date func(place, before int)
		date = func(place, before int) {
			if place == len(order) {
				take(s)
				return
			}
			days := c.Links[order[place]].Day
			for day := days.Lo; day <= days.Hi; day++ {
				if day > before {
					s.days[order[place]] = day
					date(place+1, day)
				}
			}
		}
		for s.made = c.Made.Lo; s.made <= c.Made.Hi; s.made++ {
			date(0, s.made)
		}
	}
}

// told is what all stories of a chain tell, up to a last day.
type told struct {
	orders  [][]int
	days    []api.Span // first when the thing was made, then each link
	holders [][]int    // day by day
}

// toldBy returns what all stories of a chain tell, and whether there is one.
func toldBy(c api.Chain, last int) (told, bool) {
	var all told
	holders := make([]map[int]bool, last+1)
	for i := range holders {
		holders[i] = map[int]bool{}
	}
	allStories(c, func(s story) {
		if n := len(all.orders); n == 0 || !slices.Equal(all.orders[n-1], s.order) {
			all.orders = append(all.orders, s.order)
		}
		for i, day := range append([]int{s.made}, s.days...) {
			if i == len(all.days) {
				all.days = append(all.days, span(day, day))
			}
			all.days[i].Lo, all.days[i].Hi = min(all.days[i].Lo, day), max(all.days[i].Hi, day)
		}
		for day := range holders {
			holders[day][s.holder(c, day)] = true
		}
	})
	for _, who := range holders {
		var l []int
		for holder := range who {
			l = append(l, holder)
		}
		slices.Sort(l)
		all.holders = append(all.holders, l)
	}
	return all, len(all.orders) > 0
}

// verdictOf returns what follows for an owner from who may be the holder.
func verdictOf(holders []int, owner int) int {
	others := slices.ContainsFunc(holders, func(holder int) bool { return holder != owner })
	switch is := slices.Contains(holders, owner); {
	case is && !others:
		return api.Sure
	case is:
		return api.Open
	}
	return api.Never
}

// contradict tells whether two loans are of one thing, and have a day in common.
func contradict(a, b api.Loan) bool {
	for day := a.From; day <= a.To; day++ {
		if a.Thing == b.Thing && b.From <= day && day <= b.To {
			return true
		}
	}
	return false
}

// allLists returns all lists of the numbers of loans of which no two contradict each other, each one ascending.
func allLists(l []api.Loan) [][]int {
	all := [][]int{{}}
	for i, next := range l {
		for _, before := range all {
			if !slices.ContainsFunc(before, func(k int) bool { return contradict(l[k], next) }) {
				all = append(all, append(slices.Clone(before), i))
			}
		}
	}
	return all
}

// worthOf returns what the loans of a list are worth together.
func worthOf(l []api.Loan, list []int) int {
	worth := 0
	for _, i := range list {
		worth += l[i].Worth
	}
	return worth
}

// lentOf returns what Lend has to return: the list that is worth the most, then the shortest one, then the first one.
func lentOf(l []api.Loan) (best []int, worth int) {
	for i, list := range allLists(l) {
		now := worthOf(l, list)
		less := now < worth || now == worth && (len(list) > len(best) || len(list) == len(best) && slices.Compare(list, best) > 0)
		if i == 0 || !less {
			best, worth = list, now
		}
	}
	return best, worth
}

// combinationsOf returns all combinations of a season, in lexicographic order.
func combinationsOf(s api.Season) [][]int {
	l := [][]int{{}}
	for _, things := range s.Sorts {
		var longer [][]int
		for _, before := range l {
			for thing := range things {
				longer = append(longer, append(slices.Clone(before), thing))
			}
		}
		l = longer
	}
	return l
}

// repeat is a guest at a gathering whose combination it met earlier.
type repeat struct{ gathering, guest int }

// allRepeats returns the repeats of a plan, by gatherings, and in each one by guests.
func allRepeats(s api.Season, plan []int) []repeat {
	var l []repeat
	for gathering, combination := range plan {
		for guest := range api.MaxGuests {
			if !slices.Contains(s.Gatherings[gathering], guest) {
				continue
			}
			for earlier := range gathering {
				if plan[earlier] == combination && slices.Contains(s.Gatherings[earlier], guest) {
					l = append(l, repeat{gathering, guest})
					break
				}
			}
		}
	}
	return l
}

// allPlans returns all plans for the first gatherings of a season, so many of them, in lexicographic order.
func allPlans(s api.Season, gatherings int) [][]int {
	l := [][]int{{}}
	for range gatherings {
		var longer [][]int
		for _, plan := range l {
			for combination := range combinations(s) {
				longer = append(longer, append(slices.Clone(plan), combination))
			}
		}
		l = longer
	}
	return l
}

// planOf returns what Plan has to return.
func planOf(s api.Season) []int {
	for gatherings := len(s.Gatherings); gatherings > 0; gatherings-- {
		for _, plan := range allPlans(s, gatherings) {
			if len(allRepeats(s, plan)) == 0 {
				return plan
			}
		}
	}
	return nil
}

// leastOf returns what Fewest has to return.
func leastOf(s api.Season) (best []int, many int) {
	for i, plan := range allPlans(s, len(s.Gatherings)) {
		if now := len(allRepeats(s, plan)); i == 0 || now < many {
			best, many = plan, now
		}
	}
	return best, many
}
