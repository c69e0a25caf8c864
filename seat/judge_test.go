package seat_test

import (
	"slices"

	"aloeswood/api"
)

// This is a judge of what the package says: it looks at all orders, all lists and all menus, and at each rule as the chapter words it.

// allOrders returns all orders of so many guests, in lexicographic order.
func allOrders(guests int) [][]int {
	l := [][]int{{}}
	for number := range guests {
		var longer [][]int
		for _, order := range l {
			for place := range len(order) + 1 {
				longer = append(longer, slices.Insert(slices.Clone(order), place, number))
			}
		}
		l = longer
	}
	slices.SortFunc(l, slices.Compare[[]int])
	return l
}

// keeps tells whether an order keeps a rule of a party.
func keeps(p api.Party, order []int, r api.Rule) bool {
	a, b := slices.Index(order, r.A), slices.Index(order, r.B)
	neighbours := func(one, other int) bool { return one+1 == other || other+1 == one }
	switch r.Kind {
	case api.RuleBefore:
		return a < b
	case api.RuleBeside:
		return neighbours(a, b)
	case api.RuleApart:
		return !neighbours(a, b)
	case api.RuleFirst:
		return order[0] == r.A
	case api.RuleLast:
		return order[len(order)-1] == r.A
	}
	for i, before := range order {
		for _, behind := range order[i:] {
			if p.Guests[behind].Rank > p.Guests[before].Rank {
				return false
			}
		}
	}
	return true
}

// brokenBy returns the numbers of the rules of a party that an order does not keep, and their Weights together.
func brokenBy(p api.Party, order []int) (broken []int, price int) {
	for i, r := range p.Rules {
		if !keeps(p, order, r) {
			broken = append(broken, i)
			price += r.Weight
		}
	}
	return broken, price
}

// strict returns the numbers of the rules of a party that must be kept.
func strict(p api.Party) []int {
	var l []int
	for i, r := range p.Rules {
		if r.Weight == 0 {
			l = append(l, i)
		}
	}
	return l
}

// keepsThese tells whether an order keeps these rules of a party.
func keepsThese(p api.Party, order, rules []int) bool {
	return !slices.ContainsFunc(rules, func(i int) bool { return !keeps(p, order, p.Rules[i]) })
}

// anyKeeps tells whether an order of a party keeps these rules.
func anyKeeps(p api.Party, rules []int) bool {
	return slices.ContainsFunc(allOrders(len(p.Guests)), func(order []int) bool { return keepsThese(p, order, rules) })
}

// allowedOf returns the orders of a party that keep the rules that must be kept, in order.
func allowedOf(p api.Party) [][]int {
	var l [][]int
	for _, order := range allOrders(len(p.Guests)) {
		if keepsThese(p, order, strict(p)) {
			l = append(l, order)
		}
	}
	return l
}

// bestOf returns the first one of the cheapest of some orders, and its price.
func bestOf(p api.Party, orders [][]int) (best []int, price int) {
	for i, order := range orders {
		if _, now := brokenBy(p, order); i == 0 || now < price {
			best, price = order, now
		}
	}
	return best, price
}

// sureOf returns the verdicts about each two guests of a party in these orders.
func sureOf(p api.Party, orders [][]int) [][]int {
	var verdicts [][]int
	for a := range p.Guests {
		var l []int
		for b := range p.Guests {
			with, without := false, false
			for _, order := range orders {
				isBefore := slices.Index(order, a) < slices.Index(order, b)
				with, without = with || isBefore, without || !isBefore
			}
			switch {
			case !without:
				l = append(l, api.Sure)
			case !with:
				l = append(l, api.Never)
			default:
				l = append(l, api.Open)
			}
		}
		verdicts = append(verdicts, l)
	}
	return verdicts
}

// choices returns all lists of some of the members of a list, in its order: the shorter ones first, and those of one length as the list is ordered.
func choices(list []int) [][]int {
	all := [][]int{{}}
	for _, member := range list {
		for _, before := range all {
			all = append(all, append(slices.Clone(before), member))
		}
	}
	slices.SortFunc(all, func(a, b []int) int {
		if len(a) != len(b) {
			return len(a) - len(b)
		}
		return slices.Compare(a, b)
	})
	return all
}

// conflictOf returns the first of the least conflicts of a party, and whether there is one.
func conflictOf(p api.Party) ([]int, bool) {
	for _, rules := range choices(strict(p)) {
		if !anyKeeps(p, rules) {
			return rules, true
		}
	}
	return nil, false
}

// upTo returns the numbers from 0 on, below one.
func upTo(n int) []int {
	var l []int
	for i := range n {
		l = append(l, i)
	}
	return l
}

// bound tells whether the guests of a list keep all bonds.
func bound(list []int, bonds []api.Bond) bool {
	for _, b := range bonds {
		a, is := slices.Contains(list, b.A), slices.Contains(list, b.B)
		if b.Kind == api.BondFeud && a && is || b.Kind == api.BondWith && a && !is {
			return false
		}
	}
	return true
}

// honourOf returns the honour of the guests of a list.
func honourOf(l []api.Guest, list []int) int {
	honour := 0
	for _, guest := range list {
		honour += l[guest].Honour
	}
	return honour
}

// invitedOf returns whom Invite has to name, and their honour.
func invitedOf(l []api.Guest, bonds []api.Bond, seats int) (best []int, honour int) {
	for _, list := range choices(upTo(len(l))) {
		if now := honourOf(l, list); len(list) <= seats && bound(list, bonds) && now > honour {
			best, honour = list, now
		}
	}
	return best, honour
}

// eaten tells how a guest can eat a dish, part by part.
func eaten(g api.Guest, d api.Dish) int {
	verdict := api.Sure
	for part := 1; part <= api.MaxParts; part *= 2 {
		in := func(parts int) bool { return parts/part%2 == 1 }
		if in(d.Parts) && in(g.Never) {
			return api.Never
		}
		if in(d.Parts) && in(g.Maybe) {
			verdict = api.Open
		}
	}
	return verdict
}

// allMenus returns all menus of so many turns, in lexicographic order.
func allMenus(dishes []api.Dish, turns int) [][]int {
	l := [][]int{{}}
	for turn := range turns {
		var longer [][]int
		for _, menu := range l {
			for i, d := range dishes {
				if d.Turn == turn {
					longer = append(longer, append(slices.Clone(menu), i))
				}
			}
		}
		l = longer
	}
	return l
}

// feeds tells whether each guest surely can eat so many of the dishes of a menu.
func feeds(l []api.Guest, dishes []api.Dish, menu []int, need int) bool {
	for _, g := range l {
		count := 0
		for _, i := range menu {
			if eaten(g, dishes[i]) == api.Sure {
				count++
			}
		}
		if count < need {
			return false
		}
	}
	return true
}

// costOf returns what a menu costs.
func costOf(dishes []api.Dish, menu []int) int {
	cost := 0
	for _, i := range menu {
		cost += dishes[i].Cost
	}
	return cost
}

// menuOf returns the menu that Menu has to return, and its cost, and whether there is one.
func menuOf(l []api.Guest, dishes []api.Dish, turns, need int) (best []int, cost int, found bool) {
	for _, menu := range allMenus(dishes, turns) {
		if now := costOf(dishes, menu); feeds(l, dishes, menu, need) && (!found || now < cost) {
			best, cost, found = menu, now, true
		}
	}
	return best, cost, found
}
