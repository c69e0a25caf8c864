package design

import (
	"iter"
	"slices"

	"aloeswood/api"
)

// Fairest returns the counts within limits, so many packets together, with which the best guess is right most seldom: in so many ways, of how many.
func Fairest(limits []int, sum, draw int) (counts []int, ways, total int, e api.Errno) {
	if e := checkCounts(limits); e != api.OK {
		return nil, 0, 0, e
	}
	if sum < 1 || sum > api.MaxMixed || draw < 1 || draw > api.MaxShaped || draw > sum {
		return nil, 0, 0, api.ErrRange
	}
	all := allBlocks(draw)
	for l := range handedOut(limits, sum) {
		// All of them have as many ways, so those of the guesses are compared alone.
		guess := slices.Max(mixed(l).shapes(all))
		if counts == nil || guess < ways {
			counts, ways = l, guess
		}
	}
	if counts == nil {
		return nil, 0, 0, api.ErrMissing
	}
	return counts, ways, drawn(sum, draw), api.OK
}

// handedOut hands out all counts within limits, at least one for each, so many together, in lexicographic order. Each list is a new one.
func handedOut(limits []int, sum int) iter.Seq[[]int] {
	return func(yield func([]int) bool) {
		hand(nil, limits, sum, yield)
	}
}

// hand hands out the counts that begin so, with as many more as there are limits, so many of them together, as long as more are asked for; it tells whether they are.
func hand(begun, limits []int, sum int, yield func([]int) bool) bool {
	if len(limits) == 0 {
		return yield(begun)
	}
	behind := limits[1:]
	// Those behind take at least one each, and at most all that their limits allow; so the last one takes just what is left, if it can.
	least, most := max(sum-total(behind), 1), min(sum-len(behind), limits[0])
	for count := least; count <= most; count++ {
		if !hand(append(slices.Clone(begun), count), behind, sum-count, yield) {
			return false
		}
	}
	return true
}
