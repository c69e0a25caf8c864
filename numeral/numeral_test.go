package numeral_test

import (
	"slices"
	"strconv"
	"testing"

	"aloeswood/numeral"
)

func TestWordsThatAreNumbers(t *testing.T) {
	for n := range 20000 {
		word := strconv.Itoa(n)
		for digits := range 7 {
			got, is := numeral.Read(word, digits)
			if is != (len(word) <= digits) || is && got != n || !is && got != 0 {
				t.Fatal(word, digits, got, is)
			}
		}
	}
	if n, is := numeral.Read("999999999999999999", 18); n != 999999999999999999 || !is {
		t.Error(n, is)
	}
}

func TestWordsThatAreNoNumbers(t *testing.T) {
	for _, word := range []string{"", "-", "-1", "+1", "-0", "00", "01", "1 ", " 1", "1x", "x1", "1_0", "0x1", "1.0", "1e1", "/", ":", "1/", "1:", "\x00", "\xff", "٣", "１"} {
		if n, is := numeral.Read(word, 6); n != 0 || is {
			t.Errorf("%q: %v %v", word, n, is)
		}
	}
}

func TestPlacesOfNumbers(t *testing.T) {
	for _, c := range []struct {
		words []string
		want  [3]int
		all   bool
	}{
		{[]string{"12", "0", "345"}, [3]int{12, 0, 345}, true},
		{[]string{"12", "0"}, [3]int{7, 7, 7}, false},
		{[]string{"12", "0", "345", "6"}, [3]int{7, 7, 7}, false},
		{nil, [3]int{7, 7, 7}, false},
		// What comes before a word that is no number was put where it belongs.
		{[]string{"x", "0", "345"}, [3]int{7, 7, 7}, false},
		{[]string{"12", "", "345"}, [3]int{12, 7, 7}, false},
		{[]string{"12", "0", "3456"}, [3]int{12, 0, 7}, false},
	} {
		got := [3]int{7, 7, 7}
		if all := numeral.ReadAll(c.words, 3, &got[0], &got[1], &got[2]); all != c.all || got != c.want {
			t.Error(c, all, got)
		}
	}
	if !numeral.ReadAll(nil, 3) || numeral.ReadAll([]string{"1"}, 3) {
		t.Error("no places")
	}
	a, b := 0, 1203
	if words := numeral.Words(&a, &b, &a); !slices.Equal(words, []string{"0", "1203", "0"}) || len(numeral.Words()) > 0 {
		t.Error(words)
	}
}
