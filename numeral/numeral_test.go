package numeral_test

import (
	"strconv"
	"testing"

	"aloeswood/numeral"
)

func TestWordsThatAreNumbers(t *testing.T) {
	for n := range 20000 {
		word := strconv.Itoa(n)
		for digits := range 7 {
			got, is := numeral.Read(word, digits)
			if is != (len(word) <= digits) || is && got != n || !is && got != 0 {
				t.Fatal(word, digits, got, is)
			}
		}
	}
	if n, is := numeral.Read("999999999999999999", 18); n != 999999999999999999 || !is {
		t.Error(n, is)
	}
}

func TestWordsThatAreNoNumbers(t *testing.T) {
	for _, word := range []string{"", "-", "-1", "+1", "-0", "00", "01", "1 ", " 1", "1x", "x1", "1_0", "0x1", "1.0", "1e1", "/", ":", "1/", "1:", "\x00", "\xff", "٣", "１"} {
		if n, is := numeral.Read(word, 6); n != 0 || is {
			t.Errorf("%q: %v %v", word, n, is)
		}
	}
}
