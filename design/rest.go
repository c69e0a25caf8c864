package design

import (
	"slices"

	"aloeswood/api"
)

// Rest returns the kinds that may come next behind what was seen, and how many packets that are still to come are known for sure.
func Rest(s api.Stock, seen []int) (kinds []int, sure int, e api.Errno) {
	if e := Check(s); e != api.OK {
		return nil, 0, e
	}
	left, e := without(s, seen)
	if e != api.OK || len(seen) == s.Draw {
		return nil, 0, e
	}
	for kind, count := range left {
		if count > 0 {
			kinds = append(kinds, kind)
		}
	}
	// With two kinds left, each packet that is still to come is of the one in some course, and of the other one in some other course.
	if len(kinds) == 1 {
		sure = s.Draw - len(seen)
	}
	return kinds, sure, api.OK
}

// without returns what is left of a valid stock behind what was seen, or the first error of what was seen.
func without(s api.Stock, seen []int) (packets, api.Errno) {
	if len(seen) > s.Draw {
		return packets{}, api.ErrFull
	}
	left := mixed(s.Counts)
	for _, kind := range seen {
		if kind < 0 || kind >= len(s.Counts) {
			return packets{}, api.ErrMissing
		}
		left[kind]--
	}
	if slices.Min(left[:]) < 0 {
		return packets{}, api.ErrOver
	}
	return left, api.OK
}

// Counted returns whether all of a course, nothing, or some of it can be known before it comes, by counting alone, and how many packets at most.
func Counted(s api.Stock) (verdict, most int, e api.Errno) {
	if e := Check(s); e != api.OK {
		return 0, 0, e
	}
	// A packet is known as soon as all others are gone that are not of its kind. Of the most frequent kind most packets are left then.
	others := total(s.Counts) - slices.Max(s.Counts)
	most = max(s.Draw-others, 0)
	switch {
	case others == 0:
		return api.Sure, most, api.OK
	case most == 0:
		return api.Never, most, api.OK
	}
	return api.Open, most, api.OK
}
