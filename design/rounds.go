package design

import (
	"iter"
	"math"
	"slices"

	"aloeswood/api"
)

// Rounds returns orders in which each of n guests has each place, and comes behind each other one, equally often.
func Rounds(n int) ([][]int, api.Errno) {
	if n < 1 || n > api.MaxSeated {
		return nil, api.ErrRange
	}
	var l [][]int
	for i := range n {
		order := zigzag(n)
		for place, guest := range order {
			order[place] = (guest + i) % n
		}
		l = append(l, order)
	}
	// If n is even, the steps from a guest to the next one are all different modulo n. If it is odd, half of them come twice, and the others twice in the same orders read backwards.
	if n%2 == 1 && n > 1 {
		for _, order := range l {
			back := slices.Clone(order)
			slices.Reverse(back)
			l = append(l, back)
		}
	}
	return l, api.OK
}

// zigzag returns the order 0, 1, n - 1, 2, n - 2, and so on.
func zigzag(n int) []int {
	order := make([]int, n)
	for place := 1; place < n; place++ {
		if place%2 == 1 {
			order[place] = (place + 1) / 2
		} else {
			order[place] = n - place/2
		}
	}
	return order
}

// Turn returns the order with which, as one more, the place difference is the least, then the neighbour difference, the first one of several.
func Turn(n int, orders [][]int) ([]int, api.Errno) {
	if e := CheckOrders(n, orders); e != api.OK {
		return nil, e
	}
	if n > api.MaxTurned || len(orders) == api.MaxRounds {
		return nil, api.ErrFull
	}
	before := tallied(n, orders)
	var best []int
	// The first order is better than none, whatever its differences are.
	least := [2]int{math.MaxInt, math.MaxInt}
next:
	for order := range everyOrder(n) {
		now := before.with(order).differences()
		for i, d := range now {
			if d > least[i] {
				continue next
			}
			if d < least[i] {
				best, least = order, now
				continue next
			}
		}
	}
	return best, api.OK
}

// everyOrder hands out all orders of n guests in lexicographic order. Each list is a new one.
func everyOrder(n int) iter.Seq[[]int] {
	return func(yield func([]int) bool) {
		extend(nil, n, yield)
	}
}

// extend hands out the orders of n guests that begin so, as long as more are asked for; it tells whether they are.
func extend(begun []int, n int, yield func([]int) bool) bool {
	if len(begun) == n {
		return yield(begun)
	}
	for guest := range n {
		if !slices.Contains(begun, guest) && !extend(append(slices.Clone(begun), guest), n, yield) {
			return false
		}
	}
	return true
}
