package store

import (
	"iter"
	"slices"

	"aloeswood/api"
)

// orders hands out all orders of the links of a chain that stories have, in lexicographic order. An order that is handed out is changed afterwards.
func orders(c api.Chain) iter.Seq[[]int] {
	return func(yield func([]int) bool) {
		order := make([]int, 0, len(c.Links))
		// grow adds links behind the owner who has the thing from a day on, as long as more orders are asked for; it tells whether they are.
		var grow func(owner, day int) bool
		grow = func(owner, day int) bool {
			if len(order) == len(c.Links) {
				return yield(order)
			}
			for link, l := range c.Links {
				// If each link is as early as can be, nothing is in the way of a later one.
				soonest := max(day+1, l.Day.Lo)
				if l.From != owner || soonest > l.Day.Hi || slices.Contains(order, link) {
					continue
				}
				order = append(order, link)
				if !grow(l.To, soonest) {
					return false
				}
				order = order[:len(order)-1]
			}
			return true
		}
		grow(c.Maker, c.Made.Lo)
	}
}

// hasStory tells whether a chain has a story.
func hasStory(c api.Chain) bool {
	for range orders(c) {
		return true
	}
	return false
}

// making stands for the number of a link where a thing is made.
const making = -1

// event is how a thing comes to an owner: it is made, or passed by a link; and between which days that may be.
type event struct {
	link, owner int
	days        api.Span
}

// eventsOf returns what happens in the stories that have an order of the links of a chain. Each event has each of its days in one of them, even with the earliest days of all events before it, and the latest ones of all behind it.
func eventsOf(c api.Chain, order []int) []event {
	events := []event{{making, c.Maker, c.Made}}
	for _, link := range order {
		l := c.Links[link]
		// It is later than the event before it.
		earliest := max(l.Day.Lo, events[len(events)-1].days.Lo+1)
		events = append(events, event{link, l.To, api.Span{Lo: earliest, Hi: l.Day.Hi}})
	}
	for i := len(events) - 1; i > 0; i-- {
		// The event before it is earlier.
		before := &events[i-1].days
		before.Hi = min(before.Hi, events[i].days.Hi-1)
	}
	return events
}

// Orders returns all orders of the links of a chain that its stories have.
func Orders(c api.Chain) ([][]int, api.Errno) {
	if e := CheckChain(c); e != api.OK {
		return nil, e
	}
	var l [][]int
	for order := range orders(c) {
		l = append(l, slices.Clone(order))
	}
	return l, api.OK
}

// Days returns between which days a thing was made, and passed by each link.
func Days(c api.Chain) (made api.Span, links []api.Span, e api.Errno) {
	if e := CheckChain(c); e != api.OK {
		return api.Span{}, nil, e
	}
	// No days are known at first.
	made = api.Span{Lo: api.MaxDate, Hi: 0}
	links = slices.Repeat([]api.Span{made}, len(c.Links))
	for order := range orders(c) {
		for _, event := range eventsOf(c, order) {
			known := &made
			if event.link != making {
				known = &links[event.link]
			}
			known.Lo, known.Hi = min(known.Lo, event.days.Lo), max(known.Hi, event.days.Hi)
		}
	}
	return made, links, api.OK
}

// Add returns a chain with one link more.
func Add(c api.Chain, l api.Link) (api.Chain, api.Errno) {
	if e := CheckChain(c); e != api.OK {
		return api.Chain{}, e
	}
	c.Links = append(slices.Clone(c.Links), l)
	if e := CheckChain(c); e != api.OK {
		return api.Chain{}, e
	}
	return c, api.OK
}
