package chart_test

import (
	"math"
	"slices"
	"strings"
	"testing"

	"aloeswood/api"
	"aloeswood/chart"
)

// P1.1

func TestCheckReturnsTheFirstError(t *testing.T) {
	for name, c := range faults() {
		for function, e := range refusals(c.p) {
			if e != c.e {
				t.Errorf("%s of %s: %v, want %v", function, name, e, c.e)
			}
		}
	}
	for _, word := range []string{"A", "AA", "AB", "ABAC", "ABCDEFGHI", "AAAAAAAAA"} {
		if e := chart.Check(of(word)); e != api.OK {
			t.Error(word, e)
		}
	}
}

func TestOfTellsEqualLabels(t *testing.T) {
	for _, c := range []struct {
		labels []int
		want   string
		e      api.Errno
	}{
		{[]int{7, -3, 7, 0}, "ABAC", api.OK},
		{[]int{5}, "A", api.OK},
		{[]int{math.MinInt, math.MaxInt, math.MinInt}, "ABA", api.OK},
		{[]int{2, 1, 0}, "ABC", api.OK},
		{[]int{8, 7, 6, 5, 4, 3, 2, 1, 0}, "ABCDEFGHI", api.OK},
		{make([]int, 9), "AAAAAAAAA", api.OK},
		{nil, "", api.ErrShort},
		{[]int{}, "", api.ErrShort},
		{make([]int, 10), "", api.ErrFull},
	} {
		if p, e := chart.Of(c.labels); e != c.e || !slices.Equal(p, of(c.want)) {
			t.Error(c.labels, p, e)
		}
	}
}

func TestCountOfAllPartitions(t *testing.T) {
	for i, want := range []int{1, 2, 5, 15, 52, 203, 877, 4140, 21147} {
		if count, e := chart.Count(i + 1); count != want || e != api.OK {
			t.Error(i+1, count, e)
		}
	}
	for _, n := range []int{0, -1, 10, math.MinInt, math.MaxInt} {
		if count, e := chart.Count(n); count != 0 || e != api.ErrRange {
			t.Error(n, count, e)
		}
	}
}

func TestPartedByBlocks(t *testing.T) {
	for _, c := range [][3]int{{1, 1, 1}, {4, 1, 1}, {4, 2, 7}, {4, 3, 6}, {4, 4, 1}, {5, 3, 25}, {9, 4, 7770}, {9, 9, 1}} {
		if count, e := chart.Parted(c[0], c[1]); count != c[2] || e != api.OK {
			t.Error(c, count, e)
		}
	}
	for _, c := range [][2]int{{0, 0}, {0, 1}, {10, 1}, {4, 0}, {4, 5}, {4, -1}, {9, 10}, {math.MaxInt, math.MaxInt}, {3, math.MinInt}} {
		if count, e := chart.Parted(c[0], c[1]); count != 0 || e != api.ErrRange {
			t.Error(c, count, e)
		}
	}
}

// P1.2

// inRow are all partitions of 4 packets, in order.
var inRow = []string{"AAAA", "AAAB", "AABA", "AABB", "AABC", "ABAA", "ABAB", "ABAC", "ABBA", "ABBB", "ABBC", "ABCA", "ABCB", "ABCC", "ABCD"}

func TestRankCountsThoseBefore(t *testing.T) {
	for want, word := range inRow {
		if rank, e := chart.Rank(of(word)); rank != want || e != api.OK {
			t.Error(word, rank, e)
		}
	}
	for word, want := range map[string]int{"A": 0, "AAAAAAAAA": 0, "AAAAAAAAB": 1, "ABCDEFGHH": 21145, "ABCDEFGHI": 21146} {
		if rank, e := chart.Rank(of(word)); rank != want || e != api.OK {
			t.Error(word, rank, e)
		}
	}
}

func TestUnrankFindsTheRank(t *testing.T) {
	for rank, word := range inRow {
		if p, e := chart.Unrank(4, rank); !slices.Equal(p, of(word)) || e != api.OK {
			t.Error(rank, p, e)
		}
	}
	for _, c := range []struct {
		n, rank int
		want    string
		e       api.Errno
	}{
		{1, 0, "A", api.OK},
		{9, 21146, "ABCDEFGHI", api.OK},
		{4, 15, "", api.ErrMissing},
		{4, -1, "", api.ErrMissing},
		{1, 1, "", api.ErrMissing},
		{9, 21147, "", api.ErrMissing},
		{5, math.MaxInt, "", api.ErrMissing},
		{5, math.MinInt, "", api.ErrMissing},
		{0, 0, "", api.ErrRange},
		{10, -1, "", api.ErrRange},
	} {
		if p, e := chart.Unrank(c.n, c.rank); !slices.Equal(p, of(c.want)) || e != c.e {
			t.Error(c.n, c.rank, p, e)
		}
	}
}

func TestNextComesDirectlyBehind(t *testing.T) {
	for i, word := range inRow[1:] {
		if p, e := chart.Next(of(inRow[i])); !slices.Equal(p, of(word)) || e != api.OK {
			t.Error(inRow[i], p, e)
		}
	}
	if p, e := chart.Next(of("ABCDEFGHH")); !slices.Equal(p, of("ABCDEFGHI")) || e != api.OK {
		t.Error(p, e)
	}
	for _, word := range []string{"A", "AB", "ABCD", "ABCDEFGHI"} {
		if p, e := chart.Next(of(word)); p != nil || e != api.ErrMissing {
			t.Error(word, p, e)
		}
	}
}

// P1.3

func TestTwoPartitionsCompared(t *testing.T) {
	for _, c := range []struct {
		a, b, meet, join string
		finer            bool
		moves            int
	}{
		{"A", "A", "A", "A", true, 0},
		{"AABB", "AABB", "AABB", "AABB", true, 0},
		{"AABB", "ABBB", "ABCC", "AAAA", false, 1},
		{"AABC", "ABBC", "ABCD", "AAAB", false, 1},
		{"ABCC", "AABB", "ABCC", "AABB", true, 1},
		{"AABB", "ABCC", "ABCC", "AABB", false, 1},
		{"AABB", "ABAB", "ABCD", "AAAA", false, 2},
		{"AAAA", "ABCD", "ABCD", "AAAA", false, 3},
		{"ABCD", "AAAA", "ABCD", "AAAA", true, 3},
		{"AAAB", "AABA", "AABC", "AAAA", false, 2},
		// The greatest common part of two blocks is no part of the best way: 2 and 2 stay, not 3 and 0.
		{"AAAAABB", "AAABBAA", "AAABBCC", "AAAAAAA", false, 3},
		// A row of packets leads from the first to the last one by both in turn.
		{"AABBCCDDE", "ABBCCDDEE", "ABCDEFGHI", "AAAAAAAAA", false, 4},
		{"ABCDEFGHI", "AAAAAAAAA", "ABCDEFGHI", "AAAAAAAAA", true, 8},
	} {
		a, b := of(c.a), of(c.b)
		finer, meet, join, moves := must[bool](t)(chart.Finer(a, b)), must[[]int](t)(chart.Meet(a, b)), must[[]int](t)(chart.Join(a, b)), must[int](t)(chart.Moves(a, b))
		if finer != c.finer || moves != c.moves || !slices.Equal(meet, of(c.meet)) || !slices.Equal(join, of(c.join)) {
			t.Error(c, finer, meet, join, moves)
		}
	}
}

func TestTwoPartitionsRefused(t *testing.T) {
	check := func(a, b []int, want api.Errno) {
		t.Helper()
		for function, e := range refusalsOfTwo(a, b) {
			if e != want {
				t.Errorf("%s of %v and %v: %v, want %v", function, a, b, e, want)
			}
		}
	}
	for _, c := range faults() {
		check(c.p, of("AB"), c.e)
		check(of("AB"), c.p, c.e)
		check(c.p, nil, c.e)
		check(c.p, []int{9}, c.e)
	}
	check(of("A"), of("AA"), api.ErrClash)
	check(of("AAB"), of("AA"), api.ErrClash)
	check(of("ABAC"), of("ABAC"), api.OK)
}

// P1.4

// drawn are partitions with their levels and charts.
func drawn() []struct {
	word   string
	levels []int
	rows   []string
} {
	return []struct {
		word   string
		levels []int
		rows   []string
	}{
		{"A", []int{1}, []string{"|", "|"}},
		{"AA", []int{1}, []string{"o-o", "| |"}},
		{"AB", []int{1, 1}, []string{"| |", "| |"}},
		{"ABAB", []int{1, 2}, []string{"o---o  ", "| o-x-o", "| | | |"}},
		{"ABBA", []int{1, 2}, []string{"o-----o", "| o-o |", "| | | |"}},
		{"ABAC", []int{1, 2, 1}, []string{"o---o |", "| | | |", "| | | |"}},
		{"AABB", []int{1, 1}, []string{"o-o o-o", "| | | |"}},
		{"AAAA", []int{1}, []string{"o-o-o-o", "| | | |"}},
		{"ABABA", []int{1, 2}, []string{"o---o---o", "| o-x-o |", "| | | | |"}},
		// A lone packet under two beams stands below both of them.
		{"ABCAB", []int{1, 2, 3}, []string{"o-----o  ", "| o---x-o", "| | | | |", "| | | | |"}},
		{"ABCABC", []int{1, 2, 3}, []string{"o-----o    ", "| o---x-o  ", "| | o-x-x-o", "| | | | | |"}},
		// Two blocks under one beam, one behind the other, are on one level.
		{"ABBCCA", []int{1, 2, 2}, []string{"o---------o", "| o-o o-o |", "| | | | | |"}},
		// The last block begins behind the first one's end: the level 1 is free, but it begins before the second one's.
		{"ABACBC", []int{1, 2, 3}, []string{"o---o      ", "| o-x---o  ", "| | | o-x-o", "| | | | | |"}},
		// The last one begins behind all of the third one, on the level 1 again.
		{"ABABCC", []int{1, 2, 1}, []string{"o---o   o-o", "| o-x-o | |", "| | | | | |"}},
	}
}

func TestLevelsAndCharts(t *testing.T) {
	for _, c := range drawn() {
		text := strings.Join(c.rows, "\n") + "\n"
		levels, drawing, read := must[[]int](t)(chart.Levels(of(c.word))), must[string](t)(chart.Draw(of(c.word))), must[[]int](t)(chart.Read(text))
		if !slices.Equal(levels, c.levels) || drawing != text || !slices.Equal(read, of(c.word)) {
			t.Errorf("%s: levels %v, read as %v, drawn as\n%s", c.word, levels, read, drawing)
		}
	}
}

func TestReadRefusesOtherTexts(t *testing.T) {
	for _, text := range []string{
		"", "\n", "\n\n", "|", "|\n", "|\n|", "|\n|\n|\n", "|\n|\n\n", "\n|\n|\n", " |\n |\n", "o\n|\n", "x\n|\n", "-\n|\n",
		"||\n||\n", "| |\n||\n", "|\n| |\n", "| | \n| | \n", "|\r\n|\r\n", "|  |\n|  |\n", "\xff\n|\n", "┃\n┃\n",
		"o o\n| |\n", "o-|\n| |\n", "o-o\n| |\n| |\n", "| |\n| |\n| |\n", "o-o\n|-|\n", "O-O\n| |\n",
		"o---o  \n| o-|-o\n| | | |\n", "o---o\n| o-x-o\n| | | |\n", "  o-o  \no-x-x-o\n| | | |\n", "o-o   o-o\n| | o-o |\n| | | | |\n",
		strings.Repeat("| ", 9) + "|\n" + strings.Repeat("| ", 9) + "|\n",
		strings.Repeat("x", 400), strings.Repeat("\n", 400), strings.Repeat("|\n", 200),
	} {
		if p, e := chart.Read(text); p != nil || e != api.ErrForm {
			t.Errorf("%q: %v %v", text, p, e)
		}
	}
	for _, text := range []string{strings.Repeat("x", 401), "|\n|\n" + strings.Repeat("\n", 397), strings.Repeat("|\n", 5000)} {
		if p, e := chart.Read(text); p != nil || e != api.ErrLong {
			t.Errorf("%d bytes: %v %v", len(text), p, e)
		}
	}
}

func TestSpellAndParse(t *testing.T) {
	for _, word := range []string{"A", "AA", "AAB", "ABCA", "ABCDEFGHI", "AAAAAAAAA"} {
		if s, e := chart.Spell(of(word)); s != word || e != api.OK {
			t.Error(word, s, e)
		}
		if p, e := chart.Parse(word); !slices.Equal(p, of(word)) || e != api.OK {
			t.Error(word, p, e)
		}
	}
	for word, want := range map[string]api.Errno{
		"": api.ErrShort, "ABCDEFGHIJ": api.ErrFull, "AAAAAAAAAA": api.ErrFull, "..........": api.ErrFull,
		"BA": api.ErrForm, "AC": api.ErrForm, "aab": api.ErrForm, "A B": api.ErrForm, "A@": api.ErrForm, "AJ": api.ErrForm, "A\x00": api.ErrForm, "0": api.ErrForm, "é": api.ErrForm, "A\xff": api.ErrForm, "AB\n": api.ErrForm,
	} {
		if p, e := chart.Parse(word); p != nil || e != want {
			t.Errorf("%q: %v %v", word, p, e)
		}
	}
}

// P1.5

// The titles of partitions of 2 and of 3 packets.
var two, five = []string{"kiri", "hana"}, []string{"a", "b", "c", "d", strings.Repeat("e", 20)}

// with returns five titles of which one is another one.
func with(i int, title string) []string {
	titles := slices.Clone(five)
	titles[i] = title
	return titles
}

// wrong are titles for 3 packets that are not valid, and their first errors.
func wrong() map[string]struct {
	titles []string
	e      api.Errno
} {
	type fault = struct {
		titles []string
		e      api.Errno
	}
	return map[string]fault{
		"none":                    {nil, api.ErrForm},
		"two":                     {two, api.ErrForm},
		"six":                     {append(slices.Clone(five), "f"), api.ErrForm},
		"six, and one twice":      {append(slices.Clone(five), "a"), api.ErrForm},
		"one without a letter":    {with(4, ""), api.ErrForm},
		"one too long":            {with(2, strings.Repeat("e", 21)), api.ErrForm},
		"a capital letter":        {with(0, "kirI"), api.ErrForm},
		"a blank":                 {with(1, "a b"), api.ErrForm},
		"before a":                {with(1, "a`"), api.ErrForm},
		"behind z":                {with(1, "{z"), api.ErrForm},
		"no letter of ours":       {with(1, "é"), api.ErrForm},
		"one twice":               {with(4, "a"), api.ErrExists},
		"one twice before others": {[]string{"a", "a", "", "d", "e"}, api.ErrExists},
		"one without a letter, and later one twice": {[]string{"a", "", "c", "a", "e"}, api.ErrForm},
	}
}

func TestTitleOfAPartition(t *testing.T) {
	for i, word := range []string{"AAA", "AAB", "ABA", "ABB", "ABC"} {
		if s, e := chart.Title(five, of(word)); s != five[i] || e != api.OK {
			t.Error(word, s, e)
		}
	}
	for _, c := range []struct {
		titles     []string
		word, want string
		e          api.Errno
	}{{two, "AA", "kiri", api.OK}, {two, "AB", "hana", api.OK}, {[]string{"x"}, "A", "x", api.OK}, {five, "AB", "", api.ErrForm}, {nil, "AAAAAA", "", api.ErrFull}, {five, "ABCDEFGHI", "", api.ErrFull}} {
		if s, e := chart.Title(c.titles, of(c.word)); s != c.want || e != c.e {
			t.Error(c.word, s, e)
		}
	}
	for name, c := range wrong() {
		if s, e := chart.Title(c.titles, of("AAA")); s != "" || e != c.e {
			t.Error(name, s, e)
		}
	}
}

func TestFindATitle(t *testing.T) {
	for i, word := range []string{"AAA", "AAB", "ABA", "ABB", "ABC"} {
		if p, e := chart.Find(five, 3, five[i]); !slices.Equal(p, of(word)) || e != api.OK {
			t.Error(word, p, e)
		}
	}
	for _, c := range []struct {
		titles []string
		n      int
		title  string
		want   string
		e      api.Errno
	}{{two, 2, "kiri", "AA", api.OK}, {[]string{"x"}, 1, "x", "A", api.OK}, {two, 2, "matsu", "", api.ErrMissing}, {two, 2, "", "", api.ErrMissing}, {two, 2, "Kiri", "", api.ErrMissing}, {five, 3, strings.Repeat("e", 21), "", api.ErrMissing}, {two, 3, "kiri", "", api.ErrForm}, {nil, 0, "kiri", "", api.ErrRange}, {two, 6, "kiri", "", api.ErrRange}, {two, math.MinInt, "kiri", "", api.ErrRange}, {two, math.MaxInt, "kiri", "", api.ErrRange}} {
		if p, e := chart.Find(c.titles, c.n, c.title); !slices.Equal(p, of(c.want)) || e != c.e {
			t.Error(c.n, c.title, p, e)
		}
	}
	for name, c := range wrong() {
		if p, e := chart.Find(c.titles, 3, "c"); p != nil || e != c.e {
			t.Error(name, p, e)
		}
	}
}
