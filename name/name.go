// Package name says which words are names; the layers whose things and people have names share it.
package name

// Is tells whether a word is a name: 1 to so many small letters a to z.
func Is(word string, letters int) bool {
	if len(word) == 0 || len(word) > letters {
		return false
	}
	for i := range len(word) {
		if word[i] < 'a' || word[i] > 'z' {
			return false
		}
	}
	return true
}
