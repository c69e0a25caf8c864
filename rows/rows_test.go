package rows_test

import (
	"strconv"
	"strings"
	"testing"

	"aloeswood/rows"
)

func TestRows(t *testing.T) {
	for _, c := range []struct {
		text string
		said string // each row that is taken: its number, and its words
		row  int
		all  bool
	}{
		{"", "", 0, true},
		{"\n", "1[]", 1, true},
		{"\n\n", "1[]2[]", 2, true},
		{"a\n", "1[a]", 1, true},
		{"a b\nc\n", "1[a|b]2[c]", 2, true},
		{" a  b \n", "1[|a||b|]", 1, true},
		{"a\tb\r\n", "1[a\tb\r]", 1, true},
		{"\x00 \xff\n", "1[\x00|\xff]", 1, true},
		// A row that is not ended is not taken.
		{"a", "", 1, false},
		{" ", "", 1, false},
		{"a\nb c", "1[a]", 2, false},
		// Nothing is taken behind the first row that is not as it has to be.
		{"no\n", "1[no]", 1, false},
		{"a\nno b\nc\n", "1[a]2[no|b]", 2, false},
		{"a\nb no\nc", "1[a]2[b|no]", 3, false},
	} {
		said := ""
		row, all := rows.Read(c.text, func(row int, words []string) bool {
			said += strconv.Itoa(row) + "[" + strings.Join(words, "|") + "]"
			return words[0] != "no"
		})
		if said != c.said || row != c.row || all != c.all {
			t.Errorf("%q: %q %v %v", c.text, said, row, all)
		}
	}
}

func TestManyRows(t *testing.T) {
	count := 0
	row, all := rows.Read(strings.Repeat("a b\n", 5000), func(row int, words []string) bool {
		count++
		return row == count && len(words) == 2
	})
	if row != 5000 || !all || count != 5000 {
		t.Error(row, all, count)
	}
}
