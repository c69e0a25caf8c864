package chart

import (
	"slices"

	"aloeswood/api"
	"aloeswood/name"
)

// Title returns the title of a partition.
func Title(titles []string, p []int) (string, api.Errno) {
	rank, e := Rank(p)
	if e != api.OK {
		return "", e
	}
	if len(p) > api.MaxTitled {
		return "", api.ErrFull
	}
	if e := checkTitles(titles, len(p)); e != api.OK {
		return "", e
	}
	return titles[rank], api.OK
}

// Find returns the partition of n packets that has a title.
func Find(titles []string, n int, title string) ([]int, api.Errno) {
	if n < 1 || n > api.MaxTitled {
		return nil, api.ErrRange
	}
	if e := checkTitles(titles, n); e != api.OK {
		return nil, e
	}
	for rank, p := range inOrder(n) {
		if titles[rank] == title {
			return p, api.OK
		}
	}
	return nil, api.ErrMissing
}

// checkTitles returns the first error of titles for the partitions of n packets.
func checkTitles(titles []string, n int) api.Errno {
	if count, e := Count(n); e != api.OK || len(titles) != count {
		return api.ErrForm
	}
	for i, title := range titles {
		if !name.Is(title, api.MaxTitle) {
			return api.ErrForm
		}
		if slices.Contains(titles[:i], title) {
			return api.ErrExists
		}
	}
	return api.OK
}
