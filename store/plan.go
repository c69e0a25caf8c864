package store

import (
	"slices"

	"aloeswood/api"
)

// tryPlans gives plans of a season, each one with how many repeats it has, to a function that tells whether the plan shall grow. They come in lexicographic order, so each plan comes before those that it grows to.
// If the combinations of a plan are numbered anew, in the order in which they come, it has as many repeats, and does not come later; so a combination that was not taken yet is only tried if it is the next one, as in a partition.
func tryPlans(s api.Season, grows func(plan []int, repeats int) bool) {
	var plan []int
	met := meetings{}
	// grow tries a plan in which so many combinations were taken, and those that it grows to.
	var grow func(repeats, taken int)
	grow = func(repeats, taken int) {
		if !grows(plan, repeats) || len(plan) == len(s.Gatherings) {
			return
		}
		guests := s.Gatherings[len(plan)]
		for combination := range min(taken+1, combinations(s)) {
			again := len(met.again(guests, combination))
			met.add(guests, combination, 1)
			plan = append(plan, combination)
			grow(repeats+again, max(taken, combination+1))
			plan = plan[:len(plan)-1]
			met.add(guests, combination, -1)
		}
	}
	grow(0, 0)
}

// Plan returns the longest plan of a season without repeats, the first one of several.
func Plan(s api.Season) ([]int, api.Errno) {
	if e := CheckSeason(s); e != api.OK {
		return nil, e
	}
	var longest []int
	tryPlans(s, func(plan []int, repeats int) bool {
		if repeats > 0 || len(longest) == len(s.Gatherings) {
			return false
		}
		if len(plan) > len(longest) {
			longest = slices.Clone(plan)
		}
		return true
	})
	return longest, api.OK
}

// Fewest returns the plan of all gatherings of a season with the fewest repeats, the first one of several; and how many it has.
func Fewest(s api.Season) (plan []int, many int, e api.Errno) {
	if e := CheckSeason(s); e != api.OK {
		return nil, 0, e
	}
	// No plan has as many, as nobody has one at the first gathering.
	many = api.MaxGatherings * api.MaxGuests
	tryPlans(s, func(p []int, repeats int) bool {
		if repeats >= many {
			return false
		}
		if len(p) == len(s.Gatherings) {
			plan, many = slices.Clone(p), repeats
		}
		return true
	})
	return plan, many, api.OK
}
