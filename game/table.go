package game

import "aloeswood/api"

// table is a game as far as it was dealt. How many packets are in a bag is the same whatever is drawn; which ones they are is not, so this is left to the plan.
type table struct {
	woods   int
	tried   [api.MaxWoods]bool
	inside  [api.MaxBags]int // how many packets are in each bag
	mixed   int
	drawn   int
	censers int
	plan    []api.Deal // the deals but the trials; one that draws packets stands there once for each of them
	all     int        // the ways of the plan
	last    int        // how many deals of the plan there are up to the last packet that is passed
	known   int        // the ways of these
}

// kinds returns what does a deal at a table, or returns its first error, by the kinds of deals.
func kinds() map[int]func(*table, api.Deal) api.Errno {
	return map[int]func(*table, api.Deal) api.Errno{
		api.DealTrial: (*table).trial,
		api.DealMix:   (*table).mix,
		api.DealPour:  (*table).pour,
		api.DealAside: (*table).aside,
		api.DealPass:  (*table).pass,
		api.DealPlace: (*table).place,
	}
}

// isWood tells whether a number is that of a wood.
func (t *table) isWood(number int) bool { return number >= 0 && number < t.woods }

// isBag tells whether a number is that of a bag.
func isBag(number int) bool { return number >= 0 && number < api.MaxBags }

// isCount tells whether so many packets may be mixed or drawn at once.
func isCount(number int) bool { return number >= 1 && number <= api.MaxStock }

func (t *table) trial(d api.Deal) api.Errno {
	if !t.isWood(d.Wood) {
		return api.ErrMissing
	}
	if t.tried[d.Wood] {
		return api.ErrExists
	}
	t.tried[d.Wood] = true
	return api.OK
}

func (t *table) mix(d api.Deal) api.Errno {
	if !isBag(d.Bag) {
		return api.ErrRange
	}
	if !t.isWood(d.Wood) {
		return api.ErrMissing
	}
	if !isCount(d.Count) {
		return api.ErrRange
	}
	if t.mixed+d.Count > api.MaxStock {
		return api.ErrFull
	}
	t.mixed += d.Count
	t.inside[d.Bag] += d.Count
	t.plan = append(t.plan, d)
	return api.OK
}

func (t *table) pour(d api.Deal) api.Errno {
	if !isBag(d.Bag) || !isBag(d.Other) {
		return api.ErrRange
	}
	if d.Bag == d.Other {
		return api.ErrClash
	}
	t.inside[d.Other] += t.inside[d.Bag]
	t.inside[d.Bag] = 0
	t.plan = append(t.plan, d)
	return api.OK
}

func (t *table) aside(d api.Deal) api.Errno {
	if e := t.checkDraw(d); e != api.OK {
		return e
	}
	t.draw(d)
	return api.OK
}

func (t *table) pass(d api.Deal) api.Errno {
	if e := t.checkDraw(d); e != api.OK {
		return e
	}
	if t.censers+d.Count > api.MaxCensers {
		return api.ErrFull
	}
	t.draw(d)
	t.censers += d.Count
	t.last, t.known = len(t.plan), t.all
	return api.OK
}

func (t *table) place(d api.Deal) api.Errno {
	if !t.isWood(d.Wood) {
		return api.ErrMissing
	}
	if t.censers == api.MaxCensers {
		return api.ErrFull
	}
	t.censers++
	t.plan = append(t.plan, d)
	return api.OK
}

// checkDraw returns the first error of a deal by which packets are drawn.
func (t *table) checkDraw(d api.Deal) api.Errno {
	if !isBag(d.Bag) || !isCount(d.Count) {
		return api.ErrRange
	}
	if t.inside[d.Bag] < d.Count {
		return api.ErrShort
	}
	return api.OK
}

// draw puts a deal into the plan, once for each packet that it draws.
func (t *table) draw(d api.Deal) {
	for range d.Count {
		t.plan = append(t.plan, d)
		t.all *= t.inside[d.Bag]
		t.inside[d.Bag]--
		t.drawn++
	}
}
