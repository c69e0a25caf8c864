package rows_test

import (
	"strconv"
	"strings"
	"testing"

	"aloeswood/rows"
)

func TestRows(t *testing.T) {
	for _, c := range []struct {
		text string
		said string // each row that is taken: its number, and its words
		row  int
		all  bool
	}{
		{"", "", 0, true},
		{"\n", "1[]", 1, true},
		{"\n\n", "1[]2[]", 2, true},
		{"a\n", "1[a]", 1, true},
		{"a b\nc\n", "1[a|b]2[c]", 2, true},
		{" a  b \n", "1[|a||b|]", 1, true},
		{"a\tb\r\n", "1[a\tb\r]", 1, true},
		{"\x00 \xff\n", "1[\x00|\xff]", 1, true},
		// A row that is not ended is not taken.
		{"a", "", 1, false},
		{" ", "", 1, false},
		{"a\nb c", "1[a]", 2, false},
		// Nothing is taken behind the first row that is not as it has to be.
		{"no\n", "1[no]", 1, false},
		{"a\nno b\nc\n", "1[a]2[no|b]", 2, false},
		{"a\nb no\nc", "1[a]2[b|no]", 3, false},
	} {
		said := ""
		row, all := rows.Read(c.text, func(row int, words []string) bool {
			said += strconv.Itoa(row) + "[" + strings.Join(words, "|") + "]"
			return words[0] != "no"
		})
		if said != c.said || row != c.row || all != c.all {
			t.Errorf("%q: %q %v %v", c.text, said, row, all)
		}
	}
}

func TestRowsThatAreEnded(t *testing.T) {
	for _, c := range []struct {
		text        string
		head        int
		said        string // the first word of each row that is given
		row, number int
		all         bool
	}{
		{"end 0\n", 0, "", 1, 0, true},
		{"end 12\n", 0, "", 1, 12, true},
		{"a\nb c\nend 2\n", 0, "a b ", 3, 2, true},
		{"a\nb c\nend 2\n", 2, "a b ", 3, 2, true},
		// The first rows are given in any case.
		{"end 1\nend 2\n", 1, "end ", 2, 2, true},
		{"end 1\nend 2\n", 2, "end end ", 3, 0, false},
		{"end 1\n", 1, "end ", 2, 0, false},
		{"end x\nend 1\n", 1, "end ", 2, 1, true},
		{"no\nend 1\n", 1, "no ", 1, 0, false},
		// There is no row "end".
		{"", 0, "", 1, 0, false},
		{"", 1, "", 1, 0, false},
		{"a\n", 0, "a ", 2, 0, false},
		{"a\nb\n", 1, "a b ", 3, 0, false},
		{"a\nends 1\nEnd 1\n", 0, "a ends End ", 4, 0, false},
		// It is not ended, or not the last one, or not as it has to be.
		{"a\nend 1", 0, "a ", 2, 0, false},
		{"a\nend 1\n\n", 0, "a ", 3, 0, false},
		{"a\nend 1\nx", 0, "a ", 3, 0, false},
		{"a\nend 1\nend 1\n", 0, "a ", 3, 0, false},
		{"end 1\na\n", 0, "", 2, 0, false},
		{"end\n", 0, "", 1, 0, false},
		{"end \n", 0, "", 1, 0, false},
		{"end 1 \n", 0, "", 1, 0, false},
		{"end  1\n", 0, "", 1, 0, false},
		{"end 01\n", 0, "", 1, 0, false},
		{"end -1\n", 0, "", 1, 0, false},
		{"end 1 2\n", 0, "", 1, 0, false},
		{"end 99\n", 0, "", 1, 99, true},
		{"end 100\n", 0, "", 1, 0, false},
		// Nothing is given behind the first row that is not as it has to be.
		{"a\nno b\nc\nend 1\n", 0, "a no ", 2, 0, false},
	} {
		said := ""
		row, number, all := rows.ReadEnded(c.text, c.head, 2, func(row int, words []string) bool {
			said += words[0] + " "
			return words[0] != "no" && row == strings.Count(said, " ")
		})
		if said != c.said || row != c.row || number != c.number || all != c.all {
			t.Errorf("%q: %q %v %v %v", c.text, said, row, number, all)
		}
	}
}

func TestManyRows(t *testing.T) {
	count := 0
	row, all := rows.Read(strings.Repeat("a b\n", 5000), func(row int, words []string) bool {
		count++
		return row == count && len(words) == 2
	})
	if row != 5000 || !all || count != 5000 {
		t.Error(row, all, count)
	}
}
