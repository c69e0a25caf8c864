package game

import (
	"strconv"
	"strings"

	"aloeswood/api"
	"aloeswood/numeral"
	"aloeswood/rows"
)

// digits is how many digits a number of a program may have.
const digits = 6

// field is one of the numbers of a deal.
type field func(*api.Deal) *int

// form is how deals of a kind are written: a word, and the fields that the kind names.
type form struct {
	word   string
	fields []field
}

// forms returns the forms of all kinds of deals.
func forms() map[int]form {
	bag := func(d *api.Deal) *int { return &d.Bag }
	other := func(d *api.Deal) *int { return &d.Other }
	wood := func(d *api.Deal) *int { return &d.Wood }
	count := func(d *api.Deal) *int { return &d.Count }
	return map[int]form{
		api.DealTrial: {"trial", []field{wood}},
		api.DealMix:   {"mix", []field{bag, wood, count}},
		api.DealPour:  {"pour", []field{bag, other}},
		api.DealAside: {"aside", []field{bag, count}},
		api.DealPass:  {"pass", []field{bag, count}},
		api.DealPlace: {"place", []field{wood}},
	}
}

// only returns a deal of which nothing is left but its kind and the fields that this names.
func (f form) only(d api.Deal) api.Deal {
	left := api.Deal{Kind: d.Kind}
	for _, of := range f.fields {
		*of(&left) = *of(&d)
	}
	return left
}

// Write returns the program of a game.
func Write(g api.Game) (string, api.Errno) {
	if e := Check(g); e != api.OK {
		return "", e
	}
	var text strings.Builder
	for _, w := range g.Woods {
		text.WriteString("wood " + w.Name + " " + strconv.Itoa(w.Family) + "\n")
	}
	written := forms()
	for _, d := range g.Deals {
		f := written[d.Kind]
		text.WriteString(f.word)
		for _, of := range f.fields {
			text.WriteString(" " + strconv.Itoa(*of(&d)))
		}
		text.WriteString("\n")
	}
	return text.String(), api.OK
}

// Read returns the game of a program; or an error, and the number of the row that is not as it has to be, if there is one.
func Read(text string) (g api.Game, row int, e api.Errno) {
	if len(text) > api.MaxScript {
		return api.Game{}, 0, api.ErrLong
	}
	row, all := rows.Read(text, func(_ int, words []string) bool { return readRow(&g, words) })
	if !all {
		return api.Game{}, row, api.ErrForm
	}
	if e := Check(g); e != api.OK {
		return api.Game{}, 0, e
	}
	return g, 0, api.OK
}

// readRow puts what is said by the words of a row into a game; it tells whether the row is as it has to be.
func readRow(g *api.Game, words []string) bool {
	if words[0] == "wood" {
		return readWood(g, words[1:])
	}
	for kind, f := range forms() {
		if words[0] == f.word {
			return readDeal(g, kind, f.fields, words[1:])
		}
	}
	return false
}

// readWood puts a wood into a game; it tells whether its words are a name and a number, and no deal came before.
func readWood(g *api.Game, words []string) bool {
	if len(words) != 2 || words[0] == "" || len(g.Deals) > 0 {
		return false
	}
	family, is := numeral.Read(words[1], digits)
	// The game shall keep no part of the text.
	g.Woods = append(g.Woods, api.Wood{Name: strings.Clone(words[0]), Family: family})
	return is
}

// readDeal puts a deal into a game; it tells whether its words are the numbers for its fields.
func readDeal(g *api.Game, kind int, fields []field, words []string) bool {
	d := api.Deal{Kind: kind}
	var places []*int
	for _, of := range fields {
		places = append(places, of(&d))
	}
	if !numeral.ReadAll(words, digits, places...) {
		return false
	}
	g.Deals = append(g.Deals, d)
	return true
}
