package hearth

import (
	"strconv"
	"strings"

	"aloeswood/api"
	"aloeswood/numeral"
	"aloeswood/rows"
)

// The words of a plan.
const (
	coalWord  = "coal"
	litWord   = "lit"
	coldWord  = "cold"
	touchWord = "touch"
	endWord   = "end"
)

// digits is how many digits a number of a plan may have.
const digits = 6

// coalNumbers returns the numbers of a coal, in the order of a plan.
func coalNumbers(c *api.Coal) []*int {
	return []*int{&c.Catch.Lo, &c.Catch.Hi, &c.Burn.Lo, &c.Burn.Hi, &c.Heat.Lo, &c.Heat.Hi}
}

// touchNumbers returns the numbers of a touch, in the order of a plan.
func touchNumbers(t *api.Touch) []*int { return []*int{&t.A, &t.B} }

// Write returns the plan of a fire.
func Write(f api.Fire) (string, api.Errno) {
	if e := Check(f); e != api.OK {
		return "", e
	}
	var text strings.Builder
	row := func(words ...string) { text.WriteString(strings.Join(words, " ") + "\n") }
	for _, c := range f.Coals {
		words := append([]string{coalWord}, numeral.Words(coalNumbers(&c)...)...)
		if c.Lit {
			row(append(words, litWord)...)
		} else {
			row(append(words, coldWord)...)
		}
	}
	for _, t := range f.Touches {
		row(append([]string{touchWord}, numeral.Words(touchNumbers(&t)...)...)...)
	}
	row(endWord, strconv.Itoa(len(f.Coals)))
	return text.String(), api.OK
}

// Read returns the fire of a plan; or an error, and the number of the row that is not as it has to be, if there is one.
func Read(text string) (f api.Fire, row int, e api.Errno) {
	if len(text) > api.MaxPlan {
		return api.Fire{}, 0, api.ErrLong
	}
	var p plan
	row, all := rows.Read(text, p.read)
	switch {
	case !all:
		return api.Fire{}, row, api.ErrForm
	case !p.ended:
		return api.Fire{}, row + 1, api.ErrForm
	case p.coals != len(p.Coals):
		return api.Fire{}, row, api.ErrClash
	}
	if e := Check(p.Fire); e != api.OK {
		return api.Fire{}, 0, e
	}
	return p.Fire, 0, api.OK
}

// plan is a fire as far as the rows of its plan were read.
type plan struct {
	api.Fire
	ended bool
	coals int // how many coals there are, as the row "end" says
}

// read takes the words of a row; it tells whether they are as they have to be.
func (p *plan) read(_ int, words []string) bool {
	first, others := words[0], words[1:]
	switch {
	case p.ended:
		return false
	case first == coalWord:
		return p.readCoal(others)
	case first == touchWord:
		return p.readTouch(others)
	case first == endWord:
		p.ended = true
		return numeral.ReadAll(others, digits, &p.coals)
	}
	return false
}

// readCoal takes what stands behind the word "coal"; it tells whether these are the numbers of a coal, and whether it is lit, and no touch came before.
func (p *plan) readCoal(words []string) bool {
	if len(words) == 0 || len(p.Touches) > 0 {
		return false
	}
	numbers, state := words[:len(words)-1], words[len(words)-1]
	c := api.Coal{Lit: state == litWord}
	if !c.Lit && state != coldWord || !numeral.ReadAll(numbers, digits, coalNumbers(&c)...) {
		return false
	}
	p.Coals = append(p.Coals, c)
	return true
}

// readTouch takes what stands behind the word "touch"; it tells whether these are the numbers of a touch.
func (p *plan) readTouch(words []string) bool {
	var t api.Touch
	if !numeral.ReadAll(words, digits, touchNumbers(&t)...) {
		return false
	}
	p.Touches = append(p.Touches, t)
	return true
}
