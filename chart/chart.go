// Package chart is layer 1, see shared/doc/01-chart.md: partitions of packets, which say which of them are the same scent, and the charts that show them.
package chart

import "aloeswood/api"

// Check returns the first error of a partition.
func Check(p []int) api.Errno {
	if len(p) == 0 {
		return api.ErrShort
	}
	if len(p) > api.MaxPackets {
		return api.ErrFull
	}
	blocks := 0
	for _, block := range p {
		if block < 0 || block >= api.MaxPackets {
			return api.ErrRange
		}
		if block > blocks {
			return api.ErrOrder
		}
		blocks = max(blocks, block+1)
	}
	return api.OK
}

// checkBoth returns the first error of two partitions that are compared.
func checkBoth(a, b []int) api.Errno {
	if e := Check(a); e != api.OK {
		return e
	}
	if e := Check(b); e != api.OK {
		return e
	}
	if len(a) != len(b) {
		return api.ErrClash
	}
	return api.OK
}

// Of returns the partition in which two packets are in one block just if their labels are equal.
func Of(labels []int) ([]int, api.Errno) {
	if len(labels) == 0 {
		return nil, api.ErrShort
	}
	if len(labels) > api.MaxPackets {
		return nil, api.ErrFull
	}
	return numbered(labels), api.OK
}

// numbered returns the numbers of the labels' blocks, in the order in which they are met.
func numbered(labels []int) []int {
	met := map[int]int{}
	p := make([]int, len(labels))
	for i, label := range labels {
		block, known := met[label]
		if !known {
			block = len(met)
			met[label] = block
		}
		p[i] = block
	}
	return p
}

// Spell returns the word of a partition.
func Spell(p []int) (string, api.Errno) {
	if e := Check(p); e != api.OK {
		return "", e
	}
	word := make([]byte, len(p))
	for i, block := range p {
		word[i] = 'A' + byte(block)
	}
	return string(word), api.OK
}

// Parse returns the partition of a word.
func Parse(word string) ([]int, api.Errno) {
	if len(word) == 0 {
		return nil, api.ErrShort
	}
	if len(word) > api.MaxPackets {
		return nil, api.ErrFull
	}
	p := make([]int, len(word))
	for i := range p {
		// A byte that is no capital letter becomes a number that no block has.
		p[i] = int(word[i]) - 'A'
	}
	if Check(p) != api.OK {
		return nil, api.ErrForm
	}
	return p, api.OK
}
