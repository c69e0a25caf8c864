package house

import (
	"iter"
	"strings"

	"aloeswood/api"
	"aloeswood/numeral"
)

// lineEnd is what each line, and each row, is ended by; gap is what separates its words.
const (
	lineEnd = "\n"
	gap     = " "
)

// checkSheet returns the first error of a sheet, but for those of its lines.
func checkSheet(sheet string) api.Errno {
	if len(sheet) > api.MaxPaper {
		return api.ErrLong
	}
	if sheet != "" && !strings.HasSuffix(sheet, lineEnd) {
		return api.ErrForm
	}
	if strings.Count(sheet, lineEnd) > api.MaxLines {
		return api.ErrFull
	}
	return api.OK
}

// row returns a row of words, with its end.
func row(words ...string) string { return strings.Join(words, gap) + lineEnd }

// pieces hands out what the blanks of a line separate: one piece at least, and a piece may have no byte.
func pieces(line string) iter.Seq[string] {
	return func(yield func(string) bool) {
		for rest, isMore := line, true; isMore; {
			var piece string
			piece, rest, isMore = strings.Cut(rest, gap)
			if !yield(piece) {
				return
			}
		}
	}
}

// wordsOf returns the words of a line; none if one of them has no byte.
func wordsOf(line string) []string {
	var l []string
	for word := range pieces(line) {
		if word == "" {
			return nil
		}
		l = append(l, word)
	}
	return l
}

// The letters of forms: what the words behind the first one of a line have to be.
const (
	anyWord  = 'w' // any word
	moreWord = 'm' // any word, or none; only such words may follow
	aNumber  = 'n' // a number
	aMark    = 'k' // a number, or noneWord
)

// noneWord is the word for none.
const noneWord = "-"

// digits is how many digits a number of a line may have.
const digits = 6

// said is what is said behind the first word of a line: words, and numbers.
type said struct {
	words   []string
	numbers []int
}

// heldAgainst returns what words say, and whether they are as a form has them: each of its letters stands for one word.
func heldAgainst(form string, words []string) (s said, fits bool) {
	if len(words) > len(form) {
		return said{}, false
	}
	for i, letter := range form {
		if i == len(words) {
			return s, letter == moreWord
		}
		switch word := words[i]; letter {
		case anyWord, moreWord:
			s.words = append(s.words, word)
		case aNumber, aMark:
			number, is := numeral.Read(word, digits)
			if letter == aMark && word == noneWord {
				number, is = none, true
			}
			if !is {
				return said{}, false
			}
			s.numbers = append(s.numbers, number)
		}
	}
	return s, true
}

// kind is a kind of lines: the form of the words behind the first one, and what does such a line, and returns the words of its reply, or its first error.
type kind struct {
	form string
	do   func(*work, said) ([]string, api.Errno)
}

// kinds returns the kinds of lines, by their first words.
func kinds() map[string]kind {
	return map[string]kind{
		"day":    {"n", (*work).day},
		"join":   {"ww", (*work).join},
		"raise":  {"w", (*work).raise},
		"show":   {"ww", (*work).show},
		"split":  {"w", (*work).split},
		"line":   {"w", (*work).line},
		"hold":   {"w", (*work).hold},
		"gather": {"w" + strings.Repeat("m", api.MaxGather-1), (*work).gather},
		"pass":   {"", (*work).pass},
		"write":  {"wnk", (*work).write},
		"pause":  {"", (*work).pause},
		"resume": {"", (*work).resume},
		"close":  {"", (*work).close},
		"open":   {"", (*work).open},
		"sing":   {"n", (*work).sing},
		"rite":   {"n", (*work).rite},
	}
}
