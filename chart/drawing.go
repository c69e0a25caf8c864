package chart

import (
	"cmp"
	"strings"

	"aloeswood/api"
)

// signs are the characters of a chart at a packet: in the rows above the level of its block, in that of the level, and below it; each without and with a beam of the row at the packet. Those of the first kind stand between two packets, too.
var signs = [3][2]byte{{' ', '-'}, {'|', 'o'}, {'|', 'x'}}

// beam is what connects the packets of a block in the chart: from the first one to the last one, on a level.
type beam struct{ first, last, level int }

// isAt tells whether the beam is at a character of the row of a level; that of a lone packet is nowhere.
func (b beam) isAt(level, char int) bool {
	return b.level == level && b.first < b.last && 2*b.first <= char && char <= 2*b.last
}

// beams returns the beams of a valid partition, by blocks.
func beams(p []int) []beam {
	var l []beam
	for i, block := range p {
		if block == len(l) {
			l = append(l, beam{first: i})
		}
		l[block].last = i
	}
	for i := range l {
		l[i].level = 1
		for _, before := range l[:i] {
			if before.last > l[i].first {
				l[i].level = max(l[i].level, before.level+1)
			}
		}
	}
	return l
}

// Levels returns the level of each block.
func Levels(p []int) ([]int, api.Errno) {
	if e := Check(p); e != api.OK {
		return nil, e
	}
	var levels []int
	for _, b := range beams(p) {
		levels = append(levels, b.level)
	}
	return levels, api.OK
}

// Draw returns the chart of a partition.
func Draw(p []int) (string, api.Errno) {
	if e := Check(p); e != api.OK {
		return "", e
	}
	return drawing(p), api.OK
}

// drawing returns the chart of a valid partition.
func drawing(p []int) string {
	l := beams(p)
	last := 0
	for _, b := range l {
		last = max(last, b.level+1)
	}
	var text []byte
	for row := 1; row <= last; row++ {
		for char := range 2*len(p) - 1 {
			text = append(text, sign(p, l, row, char))
		}
		text = append(text, '\n')
	}
	return string(text)
}

// sign returns a character of a row of the chart.
func sign(p []int, l []beam, row, char int) byte {
	with := 0
	for _, b := range l {
		if b.isAt(row, char) {
			with = 1
		}
	}
	if char%2 == 1 {
		return signs[0][with]
	}
	return signs[1+cmp.Compare(row, l[p[char/2]].level)][with]
}

// Read returns the partition of a chart.
func Read(text string) ([]int, api.Errno) {
	if len(text) > api.MaxDrawing {
		return nil, api.ErrLong
	}
	p, e := Of(labelsOf(strings.Split(strings.TrimSuffix(text, "\n"), "\n")))
	// A text that is not quite a chart has labels, too: only drawing it again tells.
	if e != api.OK || drawing(p) != text {
		return nil, api.ErrForm
	}
	return p, api.OK
}

// labelsOf returns labels of the packets, equal for those that a beam connects, if the rows are those of a chart; otherwise some labels, or none.
func labelsOf(rows []string) []int {
	wide := len(rows[0])
	for _, row := range rows {
		if len(row) != wide {
			return nil
		}
	}
	var labels []int
	for char := 0; char < wide; char += 2 {
		labels = append(labels, labelAt(rows, char))
	}
	return labels
}

// labelAt returns the label of the packet at a character: where its block begins. The beam of the block is in the first row in which the packet stands itself.
func labelAt(rows []string, char int) int {
	for _, row := range rows {
		if row[char] == 'o' || row[char] == '|' {
			return beginning(row, char)
		}
	}
	return char
}

// beginning returns the character at which the beam begins that is at a character: there is no gap between them.
func beginning(row string, char int) int {
	for char > 0 && row[char-1] == '-' {
		char -= 2
	}
	return char
}
