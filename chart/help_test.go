package chart_test

import (
	"slices"
	"testing"

	"aloeswood/api"
	"aloeswood/chart"
)

// of returns the partition of a word, without a check.
func of(word string) []int {
	var p []int
	for i := range len(word) {
		p = append(p, int(word[i])-'A')
	}
	return p
}

// every returns all partitions of n packets in order: each of the beginnings, with each number that may follow it.
func every(n int) [][]int {
	l := [][]int{{}}
	for range n {
		var longer [][]int
		for _, p := range l {
			for block := 0; block <= blocks(p); block++ {
				longer = append(longer, append(slices.Clone(p), block))
			}
		}
		l = longer
	}
	return l
}

// blocks returns how many blocks a partition has.
func blocks(p []int) int {
	most := 0
	for _, block := range p {
		most = max(most, block+1)
	}
	return most
}

// together tells whether each two packets of one block of a are in one block of b.
func together(a, b []int) bool {
	for i := range a {
		for j := range a {
			if a[i] == a[j] && b[i] != b[j] {
				return false
			}
		}
	}
	return true
}

// must fails the test unless there was no error.
func must[T any](t *testing.T) func(v T, e api.Errno) T {
	return func(v T, e api.Errno) T {
		t.Helper()
		if e != api.OK {
			t.Fatal("unexpected", e)
		}
		return v
	}
}

// faults are lists that are no partitions, and their first errors.
func faults() map[string]struct {
	p []int
	e api.Errno
} {
	type fault = struct {
		p []int
		e api.Errno
	}
	return map[string]fault{
		"nil":                         {nil, api.ErrShort},
		"empty":                       {[]int{}, api.ErrShort},
		"ten":                         {make([]int, 10), api.ErrFull},
		"ten, none of them a number":  {[]int{-1, -1, -1, -1, -1, -1, -1, -1, -1, -1}, api.ErrFull},
		"below 0":                     {[]int{-1}, api.ErrRange},
		"far below 0":                 {[]int{0, -1 << 63}, api.ErrRange},
		"nine":                        {[]int{0, 9}, api.ErrRange},
		"far above nine":              {[]int{0, 1<<63 - 1}, api.ErrRange},
		"eight too early":             {[]int{0, 8}, api.ErrOrder},
		"not 0 first":                 {[]int{1}, api.ErrOrder},
		"a number left out":           {[]int{0, 2}, api.ErrOrder},
		"two left out at the end":     {[]int{0, 1, 0, 4}, api.ErrOrder},
		"order before range":          {[]int{0, 2, -1}, api.ErrOrder},
		"range before order":          {[]int{0, -1, 2}, api.ErrRange},
		"order, and later range":      {[]int{0, 0, 2, 9}, api.ErrOrder},
		"later blocks in wrong order": {[]int{0, 0, 2, 1}, api.ErrOrder},
	}
}

// refusals returns what each function that takes one partition says of it.
func refusals(p []int) map[string]api.Errno {
	said := map[string]api.Errno{"Check": chart.Check(p)}
	_, said["Rank"] = chart.Rank(p)
	_, said["Next"] = chart.Next(p)
	_, said["Levels"] = chart.Levels(p)
	_, said["Draw"] = chart.Draw(p)
	_, said["Spell"] = chart.Spell(p)
	_, said["Title"] = chart.Title(nil, p)
	return said
}

// refusalsOfTwo returns what each function that compares two partitions says of them.
func refusalsOfTwo(a, b []int) map[string]api.Errno {
	said := map[string]api.Errno{}
	_, said["Finer"] = chart.Finer(a, b)
	_, said["Meet"] = chart.Meet(a, b)
	_, said["Join"] = chart.Join(a, b)
	_, said["Moves"] = chart.Moves(a, b)
	return said
}
