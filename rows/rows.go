// Package rows reads texts that are rows of words, byte for byte; the layers that have such texts share it.
package rows

import (
	"strings"

	"aloeswood/numeral"
)

// Read gives the words of each row of a text, and the number of the row (from 1 on), to a function that tells whether the row is as it has to be. It returns the number of the last row (0: there is none) and true, or that of the first row that is not as it has to be and false.
// Each row is ended by a line feed, and words are separated by one blank; so a row has at least one word, which may be empty.
func Read(text string, take func(row int, words []string) bool) (row int, all bool) {
	for text != "" {
		line, behind, ended := strings.Cut(text, "\n")
		row++
		if !ended || !take(row, strings.Split(line, " ")) {
			return row, false
		}
		text = behind
	}
	return row, true
}

// EndWord is the first word of the last row of the texts that ReadEnded reads.
const EndWord = "end"

// ReadEnded reads a text as Read does that is ended by a row "end" and a number of at most so many digits, and returns this number, too. The function is given all other rows, and the first ones of the text (as many as head says) in any case, as none of them may be the row "end"; if there is no such row, the row behind the last one is not as it has to be.
func ReadEnded(text string, head, digits int, take func(row int, words []string) bool) (row, number int, all bool) {
	ended := false
	row, all = Read(text, func(row int, words []string) bool {
		switch {
		case ended:
			return false
		case row <= head || words[0] != EndWord:
			return take(row, words)
		}
		ended = true
		return numeral.ReadAll(words[1:], digits, &number)
	})
	if !all {
		return row, 0, false
	}
	if !ended {
		return row + 1, 0, false
	}
	return row, number, true
}
