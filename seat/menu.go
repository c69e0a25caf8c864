package seat

import (
	"iter"
	"slices"

	"aloeswood/api"
	"aloeswood/span"
)

// checkDish returns the first error of a dish.
func checkDish(d api.Dish) api.Errno {
	if !span.Within(d.Turn, 0, api.MaxTurns-1) || !span.Within(d.Parts, 0, api.MaxParts) || !span.Within(d.Cost, 0, api.MaxCost) {
		return api.ErrRange
	}
	return api.OK
}

// Eats returns whether a guest can eat a dish.
func Eats(g api.Guest, d api.Dish) (int, api.Errno) {
	if e := checkGuest(g); e != api.OK {
		return 0, e
	}
	if e := checkDish(d); e != api.OK {
		return 0, e
	}
	return eats(g, d), api.OK
}

// eats returns whether a guest can eat a dish, both of which are valid.
func eats(g api.Guest, d api.Dish) int {
	switch {
	case d.Parts&g.Never != 0:
		return api.Never
	case d.Parts&g.Maybe != 0:
		return api.Open
	}
	return api.Sure
}

// Menu returns the menu of so many turns that costs the least, the first one of several, among those of which each guest surely can eat at least the dishes that are needed; and what it costs.
func Menu(l []api.Guest, dishes []api.Dish, turns, need int) (menu []int, cost int, e api.Errno) {
	if e := checkDishes(l, dishes); e != api.OK {
		return nil, 0, e
	}
	if !span.Within(turns, 1, api.MaxTurns) || !span.Within(need, 0, turns) {
		return nil, 0, api.ErrRange
	}
	for m := range menus(dishes, turns) {
		served := pick(dishes, m)
		if now := costOf(served); (menu == nil || now < cost) && isEnough(l, served, need) {
			menu, cost = slices.Clone(m), now
		}
	}
	if menu == nil {
		return nil, 0, api.ErrMissing
	}
	return menu, cost, api.OK
}

// checkDishes returns the first error of guests, and of dishes for them.
func checkDishes(l []api.Guest, dishes []api.Dish) api.Errno {
	if e := checkKnown(l); e != api.OK {
		return e
	}
	if len(dishes) > api.MaxDishes {
		return api.ErrFull
	}
	for _, d := range dishes {
		if e := checkDish(d); e != api.OK {
			return e
		}
	}
	return api.OK
}

// menus hands out all menus of so many turns, in lexicographic order. A menu that is handed out is changed afterwards.
func menus(dishes []api.Dish, turns int) iter.Seq[[]int] {
	return lists(turns, len(dishes), func(before []int, dish int) bool { return dishes[dish].Turn == len(before) })
}

// pick returns the dishes of a menu.
func pick(dishes []api.Dish, menu []int) []api.Dish {
	var served []api.Dish
	for _, dish := range menu {
		served = append(served, dishes[dish])
	}
	return served
}

// costOf returns what dishes cost together.
func costOf(served []api.Dish) int {
	var costs []int
	for _, d := range served {
		costs = append(costs, d.Cost)
	}
	return sum(costs...)
}

// isEnough tells whether each guest surely can eat as many of the dishes as are needed.
func isEnough(l []api.Guest, served []api.Dish, need int) bool {
	for _, g := range l {
		count := 0
		for _, d := range served {
			if eats(g, d) == api.Sure {
				count++
			}
		}
		if count < need {
			return false
		}
	}
	return true
}
