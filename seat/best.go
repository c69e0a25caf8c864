package seat

import (
	"slices"

	"aloeswood/api"
)

// Count returns how many orders of a party are allowed.
func Count(p api.Party) (int, api.Errno) {
	if e := Check(p); e != api.OK {
		return 0, e
	}
	count := 0
	for range allowed(p) {
		count++
	}
	return count, api.OK
}

// Best returns the allowed order with the least price, the first one of several, and this price.
func Best(p api.Party) (order []int, price int, e api.Errno) {
	if e := Check(p); e != api.OK {
		return nil, 0, e
	}
	for o, broken := range allowed(p) {
		if now := priceOf(p, broken); order == nil || now < price {
			order, price = slices.Clone(o), now
		}
	}
	if order == nil {
		return nil, 0, api.ErrClash
	}
	return order, price, api.OK
}

// Sure returns a verdict for each two guests: whether the first one sits before the second one in the allowed orders.
func Sure(p api.Party) ([][]int, api.Errno) {
	if e := Check(p); e != api.OK {
		return nil, e
	}
	// In how many allowed orders the first guest sits before the second one, and how many there are.
	var before [api.MaxSeats][api.MaxSeats]int
	count := 0
	for order := range allowed(p) {
		count++
		for seat, guest := range order {
			for _, behind := range order[seat+1:] {
				before[guest][behind]++
			}
		}
	}
	if count == 0 {
		return nil, api.ErrClash
	}
	verdicts := make([][]int, len(p.Guests))
	for first := range p.Guests {
		for second := range p.Guests {
			verdicts[first] = append(verdicts[first], verdict(before[first][second], count))
		}
	}
	return verdicts, api.OK
}

// verdict returns what follows if something is so in some of all that may be.
func verdict(some, all int) int {
	switch some {
	case 0:
		return api.Never
	case all:
		return api.Sure
	}
	return api.Open
}

// Conflict returns the fewest rules that must be kept, and of which no order keeps all; the first ones of several.
func Conflict(p api.Party) ([]int, api.Errno) {
	if e := Check(p); e != api.OK {
		return nil, e
	}
	strict := must(p)
	var seen [1 << api.MaxRules]bool
	var all []bits // what orders do not keep of these rules, once each
	for order := range orders(len(p.Guests)) {
		broken := brokenBy(p, order) & strict
		if broken == 0 {
			return nil, api.ErrMissing
		}
		if !seen[broken] {
			seen[broken] = true
			all = append(all, broken)
		}
	}
	return fewest(strict, all), api.OK
}

// fewest returns the fewest of some rules, the first ones of several, of which one at least is among those that each order does not keep.
func fewest(strict bits, all []bits) []int {
	// No order keeps all of these rules.
	best := strict.list()
choices:
	for choice := range strict {
		if choice&^strict != 0 {
			continue
		}
		for _, broken := range all {
			if choice&broken == 0 {
				continue choices
			}
		}
		if list := choice.list(); comesFirst(list, best) {
			best = list
		}
	}
	return best
}
