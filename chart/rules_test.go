package chart_test

import (
	"math"
	"slices"
	"strings"
	"testing"

	"aloeswood/api"
	"aloeswood/chart"
)

// calls returns the functions of the package, each with what it returns for these arguments: its error, and whether all else is zero.
func calls(a, b []int, n, m int, text string, titles []string) map[string]func() (api.Errno, bool) {
	list := func(p []int, e api.Errno) (api.Errno, bool) { return e, len(p) == 0 }
	number := func(n int, e api.Errno) (api.Errno, bool) { return e, n == 0 }
	word := func(s string, e api.Errno) (api.Errno, bool) { return e, s == "" }
	return map[string]func() (api.Errno, bool){
		"Check":  func() (api.Errno, bool) { return chart.Check(a), true },
		"Of":     func() (api.Errno, bool) { return list(chart.Of(a)) },
		"Count":  func() (api.Errno, bool) { return number(chart.Count(n)) },
		"Parted": func() (api.Errno, bool) { return number(chart.Parted(n, m)) },
		"Rank":   func() (api.Errno, bool) { return number(chart.Rank(a)) },
		"Unrank": func() (api.Errno, bool) { return list(chart.Unrank(n, m)) },
		"Next":   func() (api.Errno, bool) { return list(chart.Next(a)) },
		"Finer":  func() (api.Errno, bool) { is, e := chart.Finer(a, b); return e, !is },
		"Meet":   func() (api.Errno, bool) { return list(chart.Meet(a, b)) },
		"Join":   func() (api.Errno, bool) { return list(chart.Join(a, b)) },
		"Moves":  func() (api.Errno, bool) { return number(chart.Moves(a, b)) },
		"Levels": func() (api.Errno, bool) { return list(chart.Levels(a)) },
		"Draw":   func() (api.Errno, bool) { return word(chart.Draw(a)) },
		"Read":   func() (api.Errno, bool) { return list(chart.Read(text)) },
		"Spell":  func() (api.Errno, bool) { return word(chart.Spell(a)) },
		"Parse":  func() (api.Errno, bool) { return list(chart.Parse(text)) },
		"Title":  func() (api.Errno, bool) { return word(chart.Title(titles, a)) },
		"Find":   func() (api.Errno, bool) { return list(chart.Find(titles, n, text)) },
	}
}

// P1, R3, R5: no argument makes a function panic, and all is zero beside an error.
func TestAnyArguments(t *testing.T) {
	lists := [][]int{nil, {}, {0}, {-1}, {math.MinInt, math.MaxInt}, {0, 0, 1, 0}, {0, 1, 2, 9}, of("ABCDEFGHI"), make([]int, 10), make([]int, 100000)}
	numbers := []int{math.MinInt, -1, 0, 1, 2, 4, 9, 10, math.MaxInt}
	texts := []string{"", "\n", "A", "\x00\xff", "|\n|\n", "o-o\n| |\n", "-\n-\n", " - - - - - - - - - -\n", strings.Repeat("|", 400), strings.Repeat("\n|", 200), strings.Repeat("A", 100000)}
	names := [][]string{nil, {""}, {"a"}, {"a", "a"}, two, five, make([]string, 52), make([]string, 100000)}
	for i, a := range lists {
		for j, b := range lists {
			for k, text := range texts {
				for l, titles := range names {
					n, m := numbers[(i+k)%len(numbers)], numbers[(j+l)%len(numbers)]
					for function, call := range calls(a, b, n, m, text, titles) {
						if e, zero := call(); e != api.OK && !zero {
							t.Fatal(function, i, j, k, l, e)
						}
					}
				}
			}
		}
	}
}

// R4: what is given is not changed, and what is returned is new each time.
func TestArgumentsAndResultsAreApart(t *testing.T) {
	a, b, titles := of("AABC"), of("ABBC"), slices.Clone(five)
	word := "ABAC"
	drawing := must[string](t)(chart.Draw(of(word)))
	lists := map[string]func() ([]int, api.Errno){
		"Of":     func() ([]int, api.Errno) { return chart.Of(a) },
		"Unrank": func() ([]int, api.Errno) { return chart.Unrank(4, 7) },
		"Next":   func() ([]int, api.Errno) { return chart.Next(a) },
		"Meet":   func() ([]int, api.Errno) { return chart.Meet(a, b) },
		"Meet 2": func() ([]int, api.Errno) { return chart.Meet(a, a) },
		"Join":   func() ([]int, api.Errno) { return chart.Join(a, b) },
		"Join 2": func() ([]int, api.Errno) { return chart.Join(a, a) },
		"Levels": func() ([]int, api.Errno) { return chart.Levels(a) },
		"Read":   func() ([]int, api.Errno) { return chart.Read(drawing) },
		"Parse":  func() ([]int, api.Errno) { return chart.Parse(word) },
		"Find":   func() ([]int, api.Errno) { return chart.Find(titles, 3, "c") },
	}
	for function, call := range lists {
		first := must[[]int](t)(call())
		want := slices.Clone(first)
		for i := range first {
			first[i] = 77
		}
		if again := must[[]int](t)(call()); !slices.Equal(again, want) {
			t.Error(function, want, again)
		}
	}
	for _, c := range calls(a, b, 4, 7, drawing, titles) {
		c()
	}
	for _, c := range calls(b, a, 3, 2, word, titles) {
		c()
	}
	if !slices.Equal(a, of("AABC")) || !slices.Equal(b, of("ABBC")) || !slices.Equal(titles, five) {
		t.Error(a, b, titles)
	}
}
