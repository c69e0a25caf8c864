package chart_test

import (
	"slices"
	"strings"
	"testing"

	"aloeswood/api"
	"aloeswood/chart"
)

// P1.6

func TestAllPartitionsInOrder(t *testing.T) {
	for n := 1; n <= api.MaxPackets; n++ {
		all := every(n)
		if count := must[int](t)(chart.Count(n)); count != len(all) {
			t.Fatal(n, count, len(all))
		}
		parted := make([]int, n+1)
		p := must[[]int](t)(chart.Unrank(n, 0))
		for rank, want := range all {
			if !slices.Equal(p, want) || must[int](t)(chart.Rank(p)) != rank || !slices.Equal(must[[]int](t)(chart.Unrank(n, rank)), p) {
				t.Fatal(n, rank, p, want)
			}
			parted[blocks(p)]++
			if rank < len(all)-1 {
				p = must[[]int](t)(chart.Next(p))
			}
		}
		if _, e := chart.Next(p); e != api.ErrMissing {
			t.Error(n, p, e)
		}
		for k := 1; k <= n; k++ {
			if m := must[int](t)(chart.Parted(n, k)); m != parted[k] {
				t.Error(n, k, m, parted[k])
			}
		}
	}
}

// P1.7

func TestLabelsShowWhichAreEqual(t *testing.T) {
	// All lists of 5 labels out of 4.
	for code := range 1024 {
		labels := make([]int, 5)
		for i := range labels {
			labels[i] = code >> (2 * i) & 3
		}
		p := must[[]int](t)(chart.Of(labels))
		if chart.Check(p) != api.OK || !together(labels, p) || !together(p, labels) {
			t.Fatal(labels, p)
		}
		for i, label := range labels {
			labels[i] = []int{1 << 62, -7, 0, -1 << 63}[label]
		}
		if q := must[[]int](t)(chart.Of(labels)); !slices.Equal(p, q) {
			t.Fatal(labels, p, q)
		}
	}
	for n := 1; n <= 7; n++ {
		for _, p := range every(n) {
			if q := must[[]int](t)(chart.Of(p)); !slices.Equal(p, q) {
				t.Fatal(p, q)
			}
		}
	}
}

// P1.8

func TestFinerIsAnOrder(t *testing.T) {
	finer := func(a, b []int) bool { return must[bool](t)(chart.Finer(a, b)) }
	for n := 1; n <= 4; n++ {
		for _, a := range every(n) {
			if !finer(a, a) {
				t.Error(a)
			}
			for _, b := range every(n) {
				if finer(a, b) != together(a, b) || finer(a, b) && finer(b, a) && !slices.Equal(a, b) {
					t.Error(a, b)
				}
				for _, c := range every(n) {
					if finer(a, b) && finer(b, c) && !finer(a, c) {
						t.Error(a, b, c)
					}
				}
			}
		}
	}
}

// P1.9

func TestMeetAndJoinAreALattice(t *testing.T) {
	finer := func(a, b []int) bool { return must[bool](t)(chart.Finer(a, b)) }
	meet := func(a, b []int) []int { return must[[]int](t)(chart.Meet(a, b)) }
	join := func(a, b []int) []int { return must[[]int](t)(chart.Join(a, b)) }
	for n := 1; n <= 5; n++ {
		for _, a := range every(n) {
			for _, b := range every(n) {
				m, j := meet(a, b), join(a, b)
				if !finer(m, a) || !finer(m, b) || !finer(a, j) || !finer(b, j) {
					t.Fatal(a, b, m, j)
				}
				if !slices.Equal(meet(a, j), a) || !slices.Equal(join(a, m), a) {
					t.Fatal(a, b, m, j)
				}
				for _, c := range every(n) {
					if finer(c, a) && finer(c, b) && !finer(c, m) || finer(a, c) && finer(b, c) && !finer(j, c) {
						t.Fatal(a, b, c, m, j)
					}
				}
			}
		}
	}
}

// P1.10

// moved returns the partitions that come about if one packet goes into another block, or into a new one.
func moved(t *testing.T, p []int) [][]int {
	var l [][]int
	for i := range p {
		for block := 0; block <= blocks(p); block++ {
			q := slices.Clone(p)
			q[i] = block
			l = append(l, must[[]int](t)(chart.Of(q)))
		}
	}
	return l
}

// distances returns how many packets have to be moved, one by one, from p to each other partition, by words.
func distances(t *testing.T, p []int) map[string]int {
	far := map[string]int{must[string](t)(chart.Spell(p)): 0}
	for work := [][]int{p}; len(work) > 0; work = work[1:] {
		for _, q := range moved(t, work[0]) {
			word := must[string](t)(chart.Spell(q))
			if _, known := far[word]; !known {
				far[word] = far[must[string](t)(chart.Spell(work[0]))] + 1
				work = append(work, q)
			}
		}
	}
	return far
}

func TestMovesAreTheLeast(t *testing.T) {
	for n := 1; n <= 6; n++ {
		for _, a := range every(n) {
			far := distances(t, a)
			for _, b := range every(n) {
				m := must[int](t)(chart.Moves(a, b))
				if m != far[must[string](t)(chart.Spell(b))] || m != must[int](t)(chart.Moves(b, a)) || m >= n || (m == 0) != slices.Equal(a, b) {
					t.Fatal(a, b, m)
				}
			}
		}
	}
}

func TestMovesOverAThirdOne(t *testing.T) {
	moves := func(a, b []int) int { return must[int](t)(chart.Moves(a, b)) }
	for _, a := range every(4) {
		for _, b := range every(4) {
			for _, c := range every(4) {
				if moves(a, c) > moves(a, b)+moves(b, c) {
					t.Error(a, b, c)
				}
			}
		}
	}
	for rank := 0; rank < 21147; rank += 97 {
		a := must[[]int](t)(chart.Unrank(9, rank))
		for _, b := range moved(t, a) {
			if m := moves(a, b); m > 1 || (m == 0) != slices.Equal(a, b) {
				t.Error(a, b, m)
			}
		}
		if m := moves(a, of("ABCDEFGHI")); m != 9-blocks(a) {
			t.Error(a, m)
		}
	}
}

// P1.11

func TestEachPartitionHasOneChart(t *testing.T) {
	whose := map[string][]int{}
	for n := 1; n <= api.MaxPackets; n++ {
		for _, p := range every(n) {
			text := must[string](t)(chart.Draw(p))
			if q, known := whose[text]; known {
				t.Fatalf("%v and %v are both drawn as\n%s", p, q, text)
			}
			whose[text] = p
			if q, e := chart.Read(text); e != api.OK || !slices.Equal(p, q) {
				t.Fatalf("%v is read as %v (%v) from\n%s", p, q, e, text)
			}
			if len(text) > api.MaxDrawing {
				t.Fatal(p, len(text))
			}
		}
	}
}

// isApart tells whether a text that was changed is refused, or is drawn again as it was read.
func isApart(text string) bool {
	p, e := chart.Read(text)
	if e != api.OK {
		return e == api.ErrForm && p == nil
	}
	again, e := chart.Draw(p)
	return e == api.OK && again == text
}

func TestEachChartShowsOnePartition(t *testing.T) {
	for n := 1; n <= 5; n++ {
		for _, p := range every(n) {
			text := must[string](t)(chart.Draw(p))
			for i := range text {
				for _, sign := range []string{"", " ", "-", "o", "x", "|", "\n", "||"} {
					if other := text[:i] + sign + text[i+1:]; !isApart(other) {
						t.Fatalf("%q, drawn as %q for %v", other, text, p)
					}
				}
			}
		}
	}
	// Of all texts of 3 or 4 characters of a chart one alone is a chart: that of one packet.
	charts := 0
	for code := range 6 * 6 * 6 * 6 {
		signs := " -ox|\n"
		text := string([]byte{signs[code%6], signs[code/6%6], signs[code/36%6], signs[code/216]})
		for _, text := range []string{text, text[:3]} {
			if p, e := chart.Read(text); e == api.OK {
				charts++
				if text != "|\n|\n" || !slices.Equal(p, of("A")) {
					t.Errorf("%q %v", text, p)
				}
			}
		}
	}
	if charts != 1 {
		t.Error(charts)
	}
}

// P1.12

// alone tells whether no other packet is in the block of packet i.
func alone(p []int, i int) bool {
	for j := range p {
		if j != i && p[j] == p[i] {
			return false
		}
	}
	return true
}

func TestRowsOfCharts(t *testing.T) {
	for n := 1; n <= 7; n++ {
		for _, p := range every(n) {
			text, levels := must[string](t)(chart.Draw(p)), must[[]int](t)(chart.Levels(p))
			rows := strings.SplitAfter(text, "\n")
			if last := len(rows) - 1; rows[last] != "" || last != slices.Max(levels)+1 {
				t.Fatalf("%v\n%s", p, text)
			}
			rows = rows[:len(rows)-1]
			for r, row := range rows {
				if len(row) != 2*n {
					t.Fatalf("%v\n%s", p, text)
				}
				for char := range 2*n - 1 {
					begins := char%2 == 0 && r+1 == levels[p[char/2]] && !alone(p, char/2)
					if (row[char] == 'o') != begins {
						t.Fatalf("%v\n%s", p, text)
					}
				}
			}
			if want := strings.Repeat("| ", n-1) + "|\n"; rows[len(rows)-1] != want {
				t.Fatalf("%v\n%s", p, text)
			}
		}
	}
}

// P1.13

func TestWordsAreRead(t *testing.T) {
	for n := 1; n <= api.MaxPackets; n++ {
		words := map[string]bool{}
		for _, p := range every(n) {
			word := must[string](t)(chart.Spell(p))
			if q := must[[]int](t)(chart.Parse(word)); !slices.Equal(p, q) || words[word] || !slices.Equal(of(word), p) {
				t.Fatal(p, word, q)
			}
			words[word] = true
		}
	}
}

func TestTitlesAreFound(t *testing.T) {
	for n := 1; n <= api.MaxTitled; n++ {
		var titles []string
		for i := range must[int](t)(chart.Count(n)) {
			// Titles that are not in the order of the alphabet, and of which one begins as another one.
			titles = append(titles, strings.Repeat(string(rune('z'-i%26)), 1+i/26))
		}
		for rank, p := range every(n) {
			title := must[string](t)(chart.Title(titles, p))
			if q := must[[]int](t)(chart.Find(titles, n, title)); title != titles[rank] || !slices.Equal(p, q) {
				t.Error(p, title, q)
			}
		}
	}
}
