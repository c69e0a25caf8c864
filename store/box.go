package store

import (
	"strings"

	"aloeswood/api"
	"aloeswood/numeral"
	"aloeswood/rows"
)

// The words of a box, beside that of its last row.
const (
	madeWord = "made"
	linkWord = "link"
)

// digits is how many digits a number of a box may have.
const digits = 7

// madeNumbers returns the numbers of a chain beside its links, in the order of a box.
func madeNumbers(c *api.Chain) []*int { return []*int{&c.Maker, &c.Made.Lo, &c.Made.Hi} }

// linkNumbers returns the numbers of a link, in the order of a box.
func linkNumbers(l *api.Link) []*int { return []*int{&l.From, &l.To, &l.Day.Lo, &l.Day.Hi} }

// Write returns the box of a chain.
func Write(c api.Chain) (string, api.Errno) {
	if e := CheckChain(c); e != api.OK {
		return "", e
	}
	var text strings.Builder
	row := func(word string, numbers ...*int) {
		text.WriteString(strings.Join(append([]string{word}, numeral.Words(numbers...)...), " ") + "\n")
	}
	row(madeWord, madeNumbers(&c)...)
	for _, l := range c.Links {
		row(linkWord, linkNumbers(&l)...)
	}
	links := len(c.Links)
	row(rows.EndWord, &links)
	return text.String(), api.OK
}

// Read returns the chain of a box; or an error, and the number of the row that is not as it has to be, if there is one.
func Read(text string) (c api.Chain, row int, e api.Errno) {
	if len(text) > api.MaxDeedText {
		return api.Chain{}, 0, api.ErrLong
	}
	row, links, all := rows.ReadEnded(text, 1, digits, func(row int, words []string) bool { return readRow(&c, row, words) })
	if !all || links != len(c.Links) {
		return api.Chain{}, row, api.ErrForm
	}
	if e := CheckChain(c); e != api.OK {
		return api.Chain{}, 0, e
	}
	return c, 0, api.OK
}

// readRow puts what is said by the words of a row into a chain; it tells whether the row is as it has to be.
func readRow(c *api.Chain, row int, words []string) bool {
	word, numbers := words[0], words[1:]
	if row == 1 {
		return word == madeWord && numeral.ReadAll(numbers, digits, madeNumbers(c)...)
	}
	var l api.Link
	if word != linkWord || !numeral.ReadAll(numbers, digits, linkNumbers(&l)...) {
		return false
	}
	c.Links = append(c.Links, l)
	return true
}
