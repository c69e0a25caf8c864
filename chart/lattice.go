package chart

import (
	"math/bits"
	"slices"

	"aloeswood/api"
)

// Finer tells whether packets of one block of a are in one block of b, too.
func Finer(a, b []int) (bool, api.Errno) {
	if e := checkBoth(a, b); e != api.OK {
		return false, e
	}
	for i := range a {
		for j := range i {
			if a[i] == a[j] && b[i] != b[j] {
				return false, api.OK
			}
		}
	}
	return true, api.OK
}

// Meet returns the partition in which two packets are in one block just if they are so in a, and in b.
func Meet(a, b []int) ([]int, api.Errno) {
	if e := checkBoth(a, b); e != api.OK {
		return nil, e
	}
	labels := make([]int, len(a))
	for i := range labels {
		labels[i] = a[i]*api.MaxPackets + b[i]
	}
	return numbered(labels), api.OK
}

// Join returns the partition in which two packets are in one block just if a row of packets leads from one to the other, each of them in one block of a, or of b, with the next.
func Join(a, b []int) ([]int, api.Errno) {
	if e := checkBoth(a, b); e != api.OK {
		return nil, e
	}
	labels := slices.Clone(a)
	for i := range b {
		for j := range i {
			if b[i] == b[j] {
				relabel(labels, labels[i], labels[j])
			}
		}
	}
	return numbered(labels), api.OK
}

// relabel replaces a label by another one.
func relabel(labels []int, from, to int) {
	for i, label := range labels {
		if label == from {
			labels[i] = to
		}
	}
}

// Moves returns the least number of packets that have to be moved so that a becomes b.
func Moves(a, b []int) (int, api.Errno) {
	if e := checkBoth(a, b); e != api.OK {
		return 0, e
	}
	return len(a) - staying(a, b), api.OK
}

// staying returns how many packets can stay where they are while the others are moved.
// A set of packets can stay just if a and b agree about each two of them: then each block of a keeps packets of one block of b alone, and no other block of a keeps some of that one.
func staying(a, b []int) int {
	apart := disputes(a, b)
	most := 0
sets:
	for set := range uint(1) << len(a) {
		size := bits.OnesCount(set)
		if size <= most {
			continue
		}
		for i := range a {
			if set>>i&1 == 1 && set&apart[i] != 0 {
				continue sets
			}
		}
		most = size
	}
	return most
}

// disputes returns for each packet the set of those (one bit each) of which only one of a and b says that they are in its block.
func disputes(a, b []int) [api.MaxPackets]uint {
	var apart [api.MaxPackets]uint
	for i := range a {
		for j := range a {
			if (a[i] == a[j]) != (b[i] == b[j]) {
				apart[i] |= 1 << j
			}
		}
	}
	return apart
}
