package game

import "aloeswood/api"

// bag says how many packets of each wood are in a bag.
type bag [api.MaxWoods]int

// at returns the wood of the packet with a number, and whether there is one: packets lie in the order of their woods.
func (b bag) at(pick int) (wood int, found bool) {
	if pick < 0 {
		return 0, false
	}
	for wood, count := range b {
		if pick < count {
			return wood, true
		}
		pick -= count
	}
	return 0, false
}

// bags are all bags, as a value.
type bags [api.MaxBags]bag

// mixed returns the bags after packets were mixed.
func (b bags) mixed(d api.Deal) bags {
	b[d.Bag][d.Wood] += d.Count
	return b
}

// poured returns the bags after one was poured into another one.
func (b bags) poured(d api.Deal) bags {
	for wood, count := range b[d.Bag] {
		b[d.Other][wood] += count
	}
	b[d.Bag] = bag{}
	return b
}

// without returns the bags after a packet of a wood was drawn from one.
func (b bags) without(from, wood int) bags {
	b[from][wood]--
	return b
}

// Play returns the course to which picks lead.
func Play(g api.Game, picks []int) ([]int, api.Errno) {
	t, e := dealt(g)
	if e != api.OK {
		return nil, e
	}
	if len(picks) != t.drawn {
		return nil, api.ErrForm
	}
	var course []int
	var b bags
	for _, d := range t.plan {
		switch d.Kind {
		case api.DealMix:
			b = b.mixed(d)
		case api.DealPour:
			b = b.poured(d)
		case api.DealPlace:
			course = append(course, d.Wood)
		case api.DealAside, api.DealPass:
			wood, found := b[d.Bag].at(picks[0])
			if !found {
				return nil, api.ErrRange
			}
			picks = picks[1:]
			b = b.without(d.Bag, wood)
			if d.Kind == api.DealPass {
				course = append(course, wood)
			}
		}
	}
	return course, api.OK
}
