package score

import (
	"iter"
	"strconv"
	"strings"

	"aloeswood/api"
	"aloeswood/numeral"
	"aloeswood/rows"
)

// The words of a saved table.
const (
	tableWord = "table"
	guestWord = "guest"
	noneWord  = "-"
)

// digits is how many digits a number of a saved table may have.
const digits = 4

// states returns the words for the states of a table.
func states() map[int]string {
	return map[int]string{
		api.TableOpen:   "open",
		api.TablePaused: "paused",
		api.TableClosed: "closed",
		api.TableShown:  "shown",
	}
}

// Save returns a table as a string.
func Save(t api.Table) (string, api.Errno) {
	if e := CheckTable(t); e != api.OK {
		return "", e
	}
	var text strings.Builder
	row := func(words ...string) { text.WriteString(strings.Join(words, " ") + "\n") }
	row(tableWord, strconv.Itoa(t.Packets), strconv.Itoa(t.Passed), states()[t.State])
	for _, answer := range t.Answers {
		words := []string{guestWord}
		for _, number := range answer {
			words = append(words, written(number))
		}
		row(words...)
	}
	row(rows.EndWord, strconv.Itoa(len(t.Answers)))
	return text.String(), api.OK
}

// written returns the word for a number of an answer.
func written(number int) string {
	if !isWritten(number) {
		return noneWord
	}
	return strconv.Itoa(number)
}

// Load returns the table of a string; or an error, and the number of the row that is not as it has to be, if there is one.
func Load(text string) (t api.Table, row int, e api.Errno) {
	if len(text) > api.MaxSaved {
		return api.Table{}, 0, api.ErrLong
	}
	var l loading
	row, guests, all := rows.ReadEnded(text, 1, digits, l.read)
	if !all {
		return api.Table{}, row, api.ErrForm
	}
	if guests != len(l.Answers) {
		return api.Table{}, row, api.ErrClash
	}
	if e := CheckTable(l.Table); e != api.OK {
		return api.Table{}, 0, e
	}
	return l.Table, 0, api.OK
}

// loading is a table as far as its rows were read.
type loading struct{ api.Table }

// read takes the words of a row but the last one; it tells whether they are as they have to be.
func (l *loading) read(row int, words []string) bool {
	first, others := words[0], words[1:]
	if row == 1 {
		return first == tableWord && l.readTable(others)
	}
	return first == guestWord && l.readGuest(others)
}

// readTable takes what stands behind the word "table"; it tells whether these are two numbers and a state.
func (l *loading) readTable(words []string) bool {
	if len(words) != 3 {
		return false
	}
	var are [3]bool
	l.Packets, are[0] = numeral.Read(words[0], digits)
	l.Passed, are[1] = numeral.Read(words[1], digits)
	l.State, are[2] = stateOf(words[2])
	return are == [...]bool{true, true, true}
}

// stateOf returns the state that a word stands for, and whether there is one.
func stateOf(word string) (int, bool) {
	for state, name := range states() {
		if name == word {
			return state, true
		}
	}
	return 0, false
}

// readGuest takes what stands behind the word "guest"; it tells whether each word is a number of an answer.
func (l *loading) readGuest(words []string) bool {
	var answer []int
	for number, is := range numbers(words) {
		if !is {
			return false
		}
		answer = append(answer, number)
	}
	l.Answers = append(l.Answers, answer)
	return true
}

// numbers hands out the numbers of an answer that words are, each one with whether its word is one.
func numbers(words []string) iter.Seq2[int, bool] {
	return func(yield func(int, bool) bool) {
		for _, word := range words {
			number, is := none, true
			if word != noneWord {
				number, is = numeral.Read(word, digits)
			}
			if !yield(number, is) {
				return
			}
		}
	}
}
