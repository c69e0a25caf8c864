package hearth

import (
	"strconv"
	"strings"

	"aloeswood/api"
	"aloeswood/numeral"
	"aloeswood/rows"
)

// The words of a plan.
const (
	coalWord  = "coal"
	litWord   = "lit"
	coldWord  = "cold"
	touchWord = "touch"
)

// digits is how many digits a number of a plan may have.
const digits = 6

// coalNumbers returns the numbers of a coal, in the order of a plan.
func coalNumbers(c *api.Coal) []*int {
	return []*int{&c.Catch.Lo, &c.Catch.Hi, &c.Burn.Lo, &c.Burn.Hi, &c.Heat.Lo, &c.Heat.Hi}
}

// touchNumbers returns the numbers of a touch, in the order of a plan.
func touchNumbers(t *api.Touch) []*int { return []*int{&t.A, &t.B} }

// Write returns the plan of a fire.
func Write(f api.Fire) (string, api.Errno) {
	if e := Check(f); e != api.OK {
		return "", e
	}
	var text strings.Builder
	row := func(words ...string) { text.WriteString(strings.Join(words, " ") + "\n") }
	for _, c := range f.Coals {
		words := append([]string{coalWord}, numeral.Words(coalNumbers(&c)...)...)
		if c.Lit {
			row(append(words, litWord)...)
		} else {
			row(append(words, coldWord)...)
		}
	}
	for _, t := range f.Touches {
		row(append([]string{touchWord}, numeral.Words(touchNumbers(&t)...)...)...)
	}
	row(rows.EndWord, strconv.Itoa(len(f.Coals)))
	return text.String(), api.OK
}

// Read returns the fire of a plan; or an error, and the number of the row that is not as it has to be, if there is one.
func Read(text string) (f api.Fire, row int, e api.Errno) {
	if len(text) > api.MaxPlan {
		return api.Fire{}, 0, api.ErrLong
	}
	row, coals, all := rows.ReadEnded(text, 0, digits, func(_ int, words []string) bool { return readRow(&f, words) })
	if !all {
		return api.Fire{}, row, api.ErrForm
	}
	if coals != len(f.Coals) {
		return api.Fire{}, row, api.ErrClash
	}
	if e := Check(f); e != api.OK {
		return api.Fire{}, 0, e
	}
	return f, 0, api.OK
}

// readRow puts what is said by the words of a row into a fire; it tells whether the row is as it has to be.
func readRow(f *api.Fire, words []string) bool {
	switch words[0] {
	case coalWord:
		return readCoal(f, words[1:])
	case touchWord:
		return readTouch(f, words[1:])
	}
	return false
}

// readCoal puts a coal into a fire; it tells whether the words are the numbers of a coal, and whether it is lit, and no touch came before.
func readCoal(f *api.Fire, words []string) bool {
	if len(words) == 0 || len(f.Touches) > 0 {
		return false
	}
	numbers, state := words[:len(words)-1], words[len(words)-1]
	c := api.Coal{Lit: state == litWord}
	if !c.Lit && state != coldWord || !numeral.ReadAll(numbers, digits, coalNumbers(&c)...) {
		return false
	}
	f.Coals = append(f.Coals, c)
	return true
}

// readTouch puts a touch into a fire; it tells whether the words are the numbers of a touch.
func readTouch(f *api.Fire, words []string) bool {
	var t api.Touch
	if !numeral.ReadAll(words, digits, touchNumbers(&t)...) {
		return false
	}
	f.Touches = append(f.Touches, t)
	return true
}
