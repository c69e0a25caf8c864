// Package numeral reads and writes the numbers of texts that are read byte for byte; the layers whose texts have numbers share it.
package numeral

import "strconv"

// Read returns the number that a word is, and whether it is one: decimal, of at most so many digits (18 or fewer), without a sign and needless zeros.
func Read(word string, digits int) (int, bool) {
	if word == "" || len(word) > digits || word[0] == '0' && word != "0" {
		return 0, false
	}
	n := 0
	for i := range len(word) {
		if word[i] < '0' || word[i] > '9' {
			return 0, false
		}
		n = 10*n + int(word[i]-'0')
	}
	return n, true
}

// ReadAll puts the numbers that words are where they belong; it tells whether there are as many words as places, and each word is a number of at most so many digits.
func ReadAll(words []string, digits int, places ...*int) bool {
	if len(words) != len(places) {
		return false
	}
	for i, word := range words {
		number, is := Read(word, digits)
		if !is {
			return false
		}
		*places[i] = number
	}
	return true
}

// Words returns the words for the numbers of some places.
func Words(places ...*int) []string {
	var words []string
	for _, number := range places {
		words = append(words, strconv.Itoa(*number))
	}
	return words
}
