package name_test

import (
	"strings"
	"testing"

	"aloeswood/name"
)

func TestWordsThatAreNames(t *testing.T) {
	const alphabet = "abcdefghijklmnopqrstuvwxyz"
	for i, letter := range alphabet {
		if word := string(letter); !name.Is(word, 1) || !name.Is(alphabet[:i+1], i+1) || !name.Is(alphabet[i:], 26) || name.Is(alphabet[:i+1], i) {
			t.Error(word)
		}
	}
}

func TestWordsThatAreNoNames(t *testing.T) {
	for _, word := range []string{"", " ", "A", "Z", "0", "9", "-", "_", "`", "{", "@", "[", "\n", "\x00", "\xff", "\xe1", "é", "ａ"} {
		for _, around := range []string{word, "a" + word, word + "a", "a" + word + "z"} {
			if (word != "" || around == "") && name.Is(around, 8) {
				t.Errorf("%q", around)
			}
		}
	}
	for _, letters := range []int{-1, 0, 1, 7, 9999} {
		if name.Is(strings.Repeat("a", 10000), letters) || name.Is("", letters) {
			t.Error(letters)
		}
	}
}
