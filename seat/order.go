package seat

import (
	"cmp"
	"iter"
	"slices"

	"aloeswood/api"
	"aloeswood/span"
)

// lists hands out all lists of so many of the numbers below a count, in lexicographic order, in which each number fits behind those before it. A list that is handed out is changed afterwards.
func lists(length, count int, fits func(before []int, next int) bool) iter.Seq[[]int] {
	return func(yield func([]int) bool) {
		list := make([]int, length)
		// fill fills the places from one on, as long as more lists are asked for; it tells whether they are.
		var fill func(place int) bool
		fill = func(place int) bool {
			if place == length {
				return yield(list)
			}
			for next := range count {
				if !fits(list[:place], next) {
					continue
				}
				list[place] = next
				if !fill(place + 1) {
					return false
				}
			}
			return true
		}
		fill(0)
	}
}

// orders hands out all orders of so many guests, in order. An order that is handed out is changed afterwards.
func orders(guests int) iter.Seq[[]int] {
	return lists(guests, guests, func(before []int, guest int) bool { return !slices.Contains(before, guest) })
}

// isOrder tells whether a list is an order of so many guests.
func isOrder(list []int, guests int) bool {
	for i, guest := range list {
		if !span.Within(guest, 0, guests-1) || slices.Contains(list[:i], guest) {
			return false
		}
	}
	return len(list) == guests
}

// row is guests who sit in a row of seats, the first one of which is 0.
type row struct {
	guests int
	seats  [api.MaxSeats]int // in which seat each guest sits
	ranks  [api.MaxSeats]int // the Rank of the one in each seat
}

// seated returns the row of guests who sit in an order.
func seated(guests []api.Guest, order []int) row {
	w := row{guests: len(guests)}
	for seat, guest := range order {
		w.seats[guest], w.ranks[seat] = seat, guests[guest].Rank
	}
	return w
}

// What the rules ask, each one by the guests that it names.

func (w row) isBefore(r api.Rule) bool { return w.seats[r.A] < w.seats[r.B] }

func (w row) isBeside(r api.Rule) bool {
	between := w.seats[r.A] - w.seats[r.B]
	return between == 1 || between == -1
}

func (w row) isApart(r api.Rule) bool { return !w.isBeside(r) }

func (w row) isFirst(r api.Rule) bool { return w.seats[r.A] == 0 }

func (w row) isLast(r api.Rule) bool { return w.seats[r.A] == w.guests-1 }

func (w row) isByRank(api.Rule) bool {
	return slices.IsSortedFunc(w.ranks[:w.guests], func(a, b int) int { return cmp.Compare(b, a) })
}

// asked returns what the rules of each kind ask.
func asked() [api.RuleRank + 1]func(row, api.Rule) bool {
	return [...]func(row, api.Rule) bool{
		api.RuleBefore: row.isBefore,
		api.RuleBeside: row.isBeside,
		api.RuleApart:  row.isApart,
		api.RuleFirst:  row.isFirst,
		api.RuleLast:   row.isLast,
		api.RuleRank:   row.isByRank,
	}
}

// brokenBy returns the rules of a party that an order does not keep.
func brokenBy(p api.Party, order []int) bits {
	var broken bits
	keep, w := asked(), seated(p.Guests, order)
	for i, r := range p.Rules {
		if !keep[r.Kind](w, r) {
			broken |= 1 << i
		}
	}
	return broken
}

// priceOf returns the price of an order that does not keep these rules of a party.
func priceOf(p api.Party, broken bits) int {
	var weights [api.MaxRules]int
	for i, r := range p.Rules {
		if broken.has(i) {
			weights[i] = r.Weight
		}
	}
	return sum(weights[:]...)
}

// Price returns the rules that an order does not keep, and its price.
func Price(p api.Party, order []int) (broken []int, price int, e api.Errno) {
	if e := Check(p); e != api.OK {
		return nil, 0, e
	}
	if !isOrder(order, len(p.Guests)) {
		return nil, 0, api.ErrForm
	}
	b := brokenBy(p, order)
	return b.list(), priceOf(p, b), api.OK
}

// must returns the rules of a party that must be kept.
func must(p api.Party) bits {
	var strict bits
	for i, r := range p.Rules {
		if r.Weight == 0 {
			strict |= 1 << i
		}
	}
	return strict
}

// allowed hands out the orders of a party that are allowed, in order, each one with the rules that it does not keep. An order that is handed out is changed afterwards.
func allowed(p api.Party) iter.Seq2[[]int, bits] {
	return func(yield func([]int, bits) bool) {
		strict := must(p)
		for order := range orders(len(p.Guests)) {
			if broken := brokenBy(p, order); broken&strict == 0 && !yield(order, broken) {
				return
			}
		}
	}
}
