// Package rows reads texts that are rows of words, byte for byte; the layers that have such texts share it.
package rows

import "strings"

// Read gives the words of each row of a text, and the number of the row (from 1 on), to a function that tells whether the row is as it has to be. It returns the number of the last row (0: there is none) and true, or that of the first row that is not as it has to be and false.
// Each row is ended by a line feed, and words are separated by one blank; so a row has at least one word, which may be empty.
func Read(text string, take func(row int, words []string) bool) (row int, all bool) {
	for text != "" {
		line, behind, ended := strings.Cut(text, "\n")
		row++
		if !ended || !take(row, strings.Split(line, " ")) {
			return row, false
		}
		text = behind
	}
	return row, true
}
