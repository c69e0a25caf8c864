// Package numeral reads the numbers of texts that are read byte for byte; the layers whose texts have numbers share it.
package numeral

// Read returns the number that a word is, and whether it is one: decimal, of at most so many digits (18 or fewer), without a sign and needless zeros.
func Read(word string, digits int) (int, bool) {
	if word == "" || len(word) > digits || word[0] == '0' && word != "0" {
		return 0, false
	}
	n := 0
	for i := range len(word) {
		if word[i] < '0' || word[i] > '9' {
			return 0, false
		}
		n = 10*n + int(word[i]-'0')
	}
	return n, true
}
