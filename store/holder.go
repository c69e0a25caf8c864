package store

import (
	"slices"

	"aloeswood/api"
)

// nobody stands for the holder of a thing that is not made yet.
const nobody = -1

// Holders returns who may be the holder of a thing on a day.
func Holders(c api.Chain, day int) ([]int, api.Errno) {
	if e := CheckChain(c); e != api.OK {
		return nil, e
	}
	if !isDay(day) {
		return nil, api.ErrRange
	}
	holders := map[int]bool{}
	for order := range orders(c) {
		gather(holders, eventsOf(c, order), day)
	}
	var l []int
	for holder := range holders {
		l = append(l, holder)
	}
	slices.Sort(l)
	return l, api.OK
}

// gather puts all who may be the holder on a day, if these are the events, into a map.
func gather(holders map[int]bool, events []event, day int) {
	holder := nobody
	for _, event := range events {
		// The thing may have come to the holder by this day; perhaps it does not go on before the next one.
		if day < event.days.Hi {
			holders[holder] = true
		}
		// It cannot have gone on yet, to any owner behind.
		if day < event.days.Lo {
			return
		}
		holder = event.owner
	}
	holders[holder] = true
}

// Owned returns whether an owner is the holder of a thing on a day.
func Owned(c api.Chain, owner, day int) (int, api.Errno) {
	holders, e := Holders(c, day)
	if e != api.OK {
		return 0, e
	}
	if !isOwner(owner) {
		return 0, api.ErrRange
	}
	switch {
	case !slices.Contains(holders, owner):
		return api.Never, api.OK
	case len(holders) == 1:
		return api.Sure, api.OK
	}
	return api.Open, api.OK
}
