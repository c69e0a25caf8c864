package chart

import (
	"iter"
	"slices"

	"aloeswood/api"
)

// table has a number for some packets (first) and some blocks (second).
type table [api.MaxPackets + 1][api.MaxPackets + 1]int

// partings returns how many partitions of so many packets have so many blocks.
func partings() table {
	var t table
	t[0][0] = 1
	for n := 1; n <= api.MaxPackets; n++ {
		for blocks := 1; blocks <= n; blocks++ {
			// The last packet joins one of the blocks, or is a new one alone.
			t[n][blocks] = blocks*t[n-1][blocks] + t[n-1][blocks-1]
		}
	}
	return t
}

// endings returns in how many ways so many packets can follow behind a beginning that has so many blocks.
func endings() table {
	var t table
	for blocks := range t[0] {
		t[0][blocks] = 1
	}
	for n := 1; n <= api.MaxPackets; n++ {
		for blocks := 0; blocks+n <= api.MaxPackets; blocks++ {
			// The next packet joins one of the blocks, or begins a new one.
			t[n][blocks] = blocks*t[n-1][blocks] + t[n-1][blocks+1]
		}
	}
	return t
}

// Count returns how many partitions of n packets there are.
func Count(n int) (int, api.Errno) {
	if n < 1 || n > api.MaxPackets {
		return 0, api.ErrRange
	}
	return endings()[n][0], api.OK
}

// Parted returns how many partitions of n packets have so many blocks.
func Parted(n, blocks int) (int, api.Errno) {
	if n < 1 || n > api.MaxPackets || blocks < 1 || blocks > n {
		return 0, api.ErrRange
	}
	return partings()[n][blocks], api.OK
}

// Rank returns how many partitions of as many packets come before p.
func Rank(p []int) (int, api.Errno) {
	if e := Check(p); e != api.OK {
		return 0, e
	}
	ways := endings()
	rank, blocks := 0, 0
	for i, block := range p {
		// Each lesser number at this place is that of a block met before, so it leaves their number as it was.
		rank += block * ways[len(p)-1-i][blocks]
		blocks = max(blocks, block+1)
	}
	return rank, api.OK
}

// Unrank returns the partition of n packets that has this rank.
func Unrank(n, rank int) ([]int, api.Errno) {
	count, e := Count(n)
	if e != api.OK {
		return nil, e
	}
	if rank < 0 || rank >= count {
		return nil, api.ErrMissing
	}
	ways := endings()
	p := make([]int, n)
	rest, blocks := rank, 0
	for i := range p {
		each := ways[n-1-i][blocks]
		// A new block has more endings than each of those met before, so the quotient may be above its number.
		p[i] = min(rest/each, blocks)
		rest -= p[i] * each
		blocks = max(blocks, p[i]+1)
	}
	return p, api.OK
}

// Next returns the partition that comes directly behind p.
func Next(p []int) ([]int, api.Errno) {
	if e := Check(p); e != api.OK {
		return nil, e
	}
	next, found := following(p)
	if !found {
		return nil, api.ErrMissing
	}
	return next, api.OK
}

// following returns the partition behind a valid one, and whether there is one.
func following(p []int) ([]int, bool) {
	next := slices.Clone(p)
	for i := len(next) - 1; i > 0; i-- {
		if next[i] <= slices.Max(next[:i]) {
			next[i]++
			return next, true
		}
		next[i] = 0
	}
	return nil, false
}

// inOrder hands out all partitions of n packets, each with its rank.
func inOrder(n int) iter.Seq2[int, []int] {
	return func(yield func(int, []int) bool) {
		p, found := make([]int, n), true
		for rank := 0; found && yield(rank, p); rank++ {
			p, found = following(p)
		}
	}
}
