package design

import (
	"slices"

	"aloeswood/api"
	"aloeswood/chart"
)

// blocks are the sizes of the blocks of a partition, the greatest one first, with zeros behind the last one. How many ways a partition has depends on them alone.
type blocks [api.MaxPackets]int

// blocksOf returns the blocks of a valid partition.
func blocksOf(p []int) blocks {
	var b blocks
	for _, block := range p {
		b[block]++
	}
	slices.SortFunc(b[:], func(x, y int) int { return y - x })
	return b
}

// allBlocks returns the blocks of all partitions of n packets, by their ranks.
func allBlocks(n int) []blocks {
	// There are partitions of so few packets, and each number below their count is a rank.
	count, _ := chart.Count(n)
	l := make([]blocks, count)
	for rank := range l {
		p, _ := chart.Unrank(n, rank)
		l[rank] = blocksOf(p)
	}
	return l
}

// ways returns in how many ways packets are drawn so that their partition is one with these blocks.
func (p packets) ways(b blocks) int {
	// from returns in how many ways the blocks from this one on are drawn from what is left.
	var from func(block int, left packets) int
	from = func(block int, left packets) int {
		if block == len(b) || b[block] == 0 {
			return 1
		}
		sum := 0
		for kind, count := range left {
			if count < b[block] {
				continue
			}
			// No other block is of this kind, so nothing is left of it for them.
			others := left
			others[kind] = 0
			sum += drawn(count, b[block]) * from(block+1, others)
		}
		return sum
	}
	return from(0, p)
}

// shapes returns for each of these blocks in how many ways they are drawn. Many partitions have the same blocks, which are counted once.
func (p packets) shapes(all []blocks) []int {
	counted := map[blocks]int{}
	l := make([]int, len(all))
	for rank, b := range all {
		ways, known := counted[b]
		if !known {
			ways = p.ways(b)
			counted[b] = ways
		}
		l[rank] = ways
	}
	return l
}

// Chance returns how many ways of a stock have a partition.
func Chance(s api.Stock, p []int) (int, api.Errno) {
	if e := Check(s); e != api.OK {
		return 0, e
	}
	if e := chart.Check(p); e != api.OK {
		return 0, e
	}
	if len(p) != s.Draw {
		return 0, api.ErrForm
	}
	return mixed(s.Counts).ways(blocksOf(p)), api.OK
}

// Shapes returns for each partition, by its rank, how many ways of a stock have it.
func Shapes(s api.Stock) ([]int, api.Errno) {
	if e := Check(s); e != api.OK {
		return nil, e
	}
	if s.Draw > api.MaxShaped {
		return nil, api.ErrFull
	}
	return mixed(s.Counts).shapes(allBlocks(s.Draw)), api.OK
}

// Guess returns the partition that most ways of a stock have, the first one of several, and how many.
func Guess(s api.Stock) (p []int, ways int, e api.Errno) {
	l, e := Shapes(s)
	if e != api.OK {
		return nil, 0, e
	}
	ways = slices.Max(l)
	p, e = chart.Unrank(s.Draw, slices.Index(l, ways))
	return p, ways, e
}
