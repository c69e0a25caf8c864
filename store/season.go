package store

import (
	"slices"

	"aloeswood/api"
	"aloeswood/span"
)

// combinations returns how many combinations a season has.
func combinations(s api.Season) int {
	count := 1
	for _, things := range s.Sorts {
		count *= things
	}
	return count
}

// isCombination tells whether a number is that of a combination of a season.
func isCombination(s api.Season, number int) bool {
	return span.Within(number, 0, combinations(s)-1)
}

// Combination returns the things of a combination, sort by sort.
func Combination(s api.Season, number int) ([]int, api.Errno) {
	if e := CheckSeason(s); e != api.OK {
		return nil, e
	}
	if !isCombination(s, number) {
		return nil, api.ErrMissing
	}
	// The things of the last sort change soonest, from one combination to the next one.
	combination := make([]int, len(s.Sorts))
	for sort, things := range slices.Backward(s.Sorts) {
		combination[sort] = number % things
		number /= things
	}
	return combination, api.OK
}

// meetings are how often a guest, the first number of a key, met a combination, the second one.
type meetings map[[2]int]int

// again returns those of some guests who met a combination already.
func (m meetings) again(guests []int, combination int) []int {
	var l []int
	for _, guest := range guests {
		if m[[2]int{guest, combination}] > 0 {
			l = append(l, guest)
		}
	}
	return l
}

// add counts so many meetings more of guests with a combination.
func (m meetings) add(guests []int, combination, times int) {
	for _, guest := range guests {
		m[[2]int{guest, combination}] += times
	}
}

// Repeats returns the gathering of the first repeat of a plan, and its guest with the least number; and how many repeats there are.
func Repeats(s api.Season, plan []int) (gathering, guest, many int, e api.Errno) {
	if e := checkPlan(s, plan); e != api.OK {
		return 0, 0, 0, e
	}
	gathering, guest = -1, -1
	met := meetings{}
	for i, combination := range plan {
		guests := s.Gatherings[i]
		again := met.again(guests, combination)
		if many == 0 && len(again) > 0 {
			gathering, guest = i, slices.Min(again)
		}
		many += len(again)
		met.add(guests, combination, 1)
	}
	return gathering, guest, many, api.OK
}

// checkPlan returns the first error of a season, and of a plan for it.
func checkPlan(s api.Season, plan []int) api.Errno {
	if e := CheckSeason(s); e != api.OK {
		return e
	}
	if len(plan) > len(s.Gatherings) {
		return api.ErrFull
	}
	for _, number := range plan {
		if !isCombination(s, number) {
			return api.ErrMissing
		}
	}
	return api.OK
}
