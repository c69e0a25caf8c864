package know

import (
	"slices"
	"strings"

	"aloeswood/api"
)

// Cut returns the mind after so many censers: without the smells of later ones, and without the facts that name one of these.
func Cut(m api.Mind, after int) (api.Mind, api.Errno) {
	o, e := looked(m)
	if e != api.OK {
		return api.Mind{}, e
	}
	if after < 0 || after > o.censers {
		return api.Mind{}, api.ErrRange
	}
	cut := copied(m)
	cut.Smells = slices.DeleteFunc(cut.Smells, func(s api.Smell) bool { return s.Censer >= after })
	cut.Facts = slices.DeleteFunc(cut.Facts, func(f api.Fact) bool { return f.A >= after || isOfTwo(f) && f.B >= after })
	return cut, api.OK
}

// copied returns a mind that is equal, and shares no memory with the given one.
func copied(m api.Mind) api.Mind {
	c := api.Mind{
		Game:   api.Game{Woods: slices.Clone(m.Game.Woods), Deals: slices.Clone(m.Game.Deals)},
		Noses:  slices.Clone(m.Noses),
		Smells: slices.Clone(m.Smells),
		Facts:  slices.Clone(m.Facts),
	}
	for i, w := range c.Game.Woods {
		c.Game.Woods[i].Name = strings.Clone(w.Name)
	}
	for i, n := range c.Noses {
		c.Noses[i].Take = slices.Clone(n.Take)
		for wood, row := range n.Take {
			c.Noses[i].Take[wood] = slices.Clone(row)
		}
	}
	return c
}
