package seat

import (
	"strings"

	"aloeswood/api"
	"aloeswood/numeral"
	"aloeswood/rows"
)

// The words of the text of a party.
const (
	guestWord = "guest"
	ruleWord  = "rule"
)

// digits is how many digits a number of a text may have.
const digits = 6

// guestNumbers returns the numbers of a guest, in the order of a text.
func guestNumbers(g *api.Guest) []*int { return []*int{&g.Rank, &g.Honour, &g.Never, &g.Maybe} }

// ruleNumbers returns the numbers of a rule, in the order of a text.
func ruleNumbers(r *api.Rule) []*int { return []*int{&r.Kind, &r.A, &r.B, &r.Weight} }

// Write returns the text of a party.
func Write(p api.Party) (string, api.Errno) {
	if e := Check(p); e != api.OK {
		return "", e
	}
	var text strings.Builder
	row := func(words ...string) { text.WriteString(strings.Join(words, " ") + "\n") }
	for _, g := range p.Guests {
		row(append([]string{guestWord, g.Name}, numeral.Words(guestNumbers(&g)...)...)...)
	}
	for _, r := range p.Rules {
		row(append([]string{ruleWord}, numeral.Words(ruleNumbers(&r)...)...)...)
	}
	return text.String(), api.OK
}

// Read returns the party of a text; or an error, and the number of the row that is not as it has to be, if there is one.
func Read(text string) (p api.Party, row int, e api.Errno) {
	if len(text) > api.MaxScript {
		return api.Party{}, 0, api.ErrLong
	}
	row, all := rows.Read(text, func(_ int, words []string) bool { return readRow(&p, words) })
	if !all {
		return api.Party{}, row, api.ErrForm
	}
	if e := Check(p); e != api.OK {
		return api.Party{}, 0, e
	}
	return p, 0, api.OK
}

// readRow puts what is said by the words of a row into a party; it tells whether the row is as it has to be.
func readRow(p *api.Party, words []string) bool {
	switch words[0] {
	case guestWord:
		return readGuest(p, words[1:])
	case ruleWord:
		return readRule(p, words[1:])
	}
	return false
}

// readGuest puts a guest into a party; it tells whether the words are a name and the numbers of a guest, and no rule came before.
func readGuest(p *api.Party, words []string) bool {
	if len(words) == 0 || words[0] == "" || len(p.Rules) > 0 {
		return false
	}
	// The party shall keep no part of the text.
	g := api.Guest{Name: strings.Clone(words[0])}
	if !numeral.ReadAll(words[1:], digits, guestNumbers(&g)...) {
		return false
	}
	p.Guests = append(p.Guests, g)
	return true
}

// readRule puts a rule into a party; it tells whether the words are the numbers of a rule.
func readRule(p *api.Party, words []string) bool {
	var r api.Rule
	if !numeral.ReadAll(words, digits, ruleNumbers(&r)...) {
		return false
	}
	p.Rules = append(p.Rules, r)
	return true
}
