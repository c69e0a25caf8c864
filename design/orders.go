package design

import (
	"iter"
	"slices"

	"aloeswood/api"
)

// CheckOrders returns the first error of orders of n guests.
func CheckOrders(n int, orders [][]int) api.Errno {
	if n < 1 || n > api.MaxSeated {
		return api.ErrRange
	}
	if len(orders) > api.MaxRounds {
		return api.ErrFull
	}
	for _, order := range orders {
		if !isOrder(n, order) {
			return api.ErrForm
		}
	}
	return api.OK
}

// isOrder tells whether a list names each of n guests once.
func isOrder(n int, order []int) bool {
	if len(order) != n {
		return false
	}
	var named [api.MaxSeated]bool
	for _, guest := range order {
		if guest < 0 || guest >= n || named[guest] {
			return false
		}
		named[guest] = true
	}
	return true
}

// tally says how often each guest had each place, and how often it came directly behind each other one.
type tally struct {
	guests         int
	places, behind [api.MaxSeated][api.MaxSeated]int
}

// tallied returns the tally of valid orders of n guests.
func tallied(n int, orders [][]int) tally {
	t := tally{guests: n}
	for _, order := range orders {
		t = t.with(order)
	}
	return t
}

// with returns the tally with one order more.
func (t tally) with(order []int) tally {
	for place, guest := range order {
		t.places[guest][place]++
		if place > 0 {
			t.behind[guest][order[place-1]]++
		}
	}
	return t
}

// placed hands out how often each guest had each place.
func (t tally) placed() iter.Seq[int] {
	return func(yield func(int) bool) {
		for guest := range t.guests {
			for place := range t.guests {
				if !yield(t.places[guest][place]) {
					return
				}
			}
		}
	}
}

// followed hands out how often each guest came directly behind each other one.
func (t tally) followed() iter.Seq[int] {
	return func(yield func(int) bool) {
		for guest := range t.guests {
			for before := range t.guests {
				if before != guest && !yield(t.behind[guest][before]) {
					return
				}
			}
		}
	}
}

// differences returns the place difference and the neighbour difference.
func (t tally) differences() [2]int {
	return [2]int{difference(t.placed()), difference(t.followed())}
}

// difference returns the greatest one of some numbers, less the least one; 0 if there are none.
func difference[N ~int](numbers iter.Seq[N]) N {
	l := slices.Collect(numbers)
	if len(l) == 0 {
		return 0
	}
	return slices.Max(l) - slices.Min(l)
}

// Fair returns the place difference and the neighbour difference of orders.
func Fair(n int, orders [][]int) (place, neighbour int, e api.Errno) {
	if e := CheckOrders(n, orders); e != api.OK {
		return 0, 0, e
	}
	d := tallied(n, orders).differences()
	return d[0], d[1], api.OK
}
