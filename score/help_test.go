package score_test

import (
	"math/rand/v2"
	"slices"
	"testing"

	"aloeswood/api"
	"aloeswood/chart"
	"aloeswood/score"
)

// example is the scoring G of the chapter.
func example() api.Scoring {
	return api.Scoring{Packet: 1, Pair: 2, Whole: 10, New: 5, Loss: 1, Keys: []int{api.KeyPoints, api.KeyPairs, api.KeySeat}}
}

// abac is the truth T of the chapter.
func abac() []int { return []int{0, 1, 0, 2} }

// fresh returns an open table at which nothing was passed; fresh(2, 2) is the table W of the chapter.
func fresh(packets, guests int) api.Table {
	t := api.Table{Packets: packets, State: api.TableOpen}
	for range guests {
		t.Answers = append(t.Answers, slices.Repeat([]int{-1}, packets))
	}
	return t
}

// at returns a table of 2 packets and 2 guests that is in a state, with so many packets passed, and with these answers.
func at(passed, state int, answers ...[]int) api.Table {
	t := fresh(2, 2)
	t.Passed, t.State = passed, state
	if len(answers) > 0 {
		t.Answers = answers
	}
	return t
}

// shown is the table of the chapter's example for Save.
func shown() api.Table { return at(2, api.TableShown, []int{3, -1}, []int{-1, 0}) }

// The deeds, by their kinds.

func pass() api.Deed { return api.Deed{Kind: api.DeedPass} }

func write(guest, packet, number int) api.Deed {
	return api.Deed{Kind: api.DeedWrite, Guest: guest, Packet: packet, Number: number}
}

func pause() api.Deed { return api.Deed{Kind: api.DeedPause} }

func resume() api.Deed { return api.Deed{Kind: api.DeedResume} }

func closing() api.Deed { return api.Deed{Kind: api.DeedClose} }

func opening() api.Deed { return api.Deed{Kind: api.DeedOpen} }

// same tells whether two tables are equal.
func same(a, b api.Table) bool {
	return a.Packets == b.Packets && a.Passed == b.Passed && a.State == b.State && slices.EqualFunc(a.Answers, b.Answers, slices.Equal[[]int])
}

// isZero tells whether a table is the zero value.
func isZero(t api.Table) bool { return same(t, api.Table{}) }

// copied returns a table that is equal, and apart.
func copied(t api.Table) api.Table {
	answers := t.Answers
	t.Answers = nil
	for _, answer := range answers {
		t.Answers = append(t.Answers, slices.Clone(answer))
	}
	return t
}

// must fails the test unless there was no error.
func must[T any](t *testing.T) func(v T, e api.Errno) T {
	return func(v T, e api.Errno) T {
		t.Helper()
		if e != api.OK {
			t.Fatal("unexpected", e)
		}
		return v
	}
}

// ranked returns scores and places of which there is no error, and that are as many as the guests.
func ranked(t *testing.T, s api.Scoring, truth []int, answers [][]int) ([]api.Score, []int) {
	t.Helper()
	scores, places, e := score.Rank(s, truth, answers)
	if e != api.OK || len(scores) != len(answers) || len(places) != len(answers) {
		t.Fatal("unexpected", e, s, truth, answers, scores, places)
	}
	return scores, places
}

// truths returns all partitions of n packets.
func truths(t *testing.T, n int) [][]int {
	t.Helper()
	var l [][]int
	for rank := range must[int](t)(chart.Count(n)) {
		l = append(l, must[[]int](t)(chart.Unrank(n, rank)))
	}
	return l
}

// every returns all answers about so many packets in which the numbers are below a bound.
func every(packets, below int) [][]int {
	l := [][]int{nil}
	for range packets {
		var longer [][]int
		for _, answer := range l {
			for number := -1; number < below; number++ {
				longer = append(longer, append(slices.Clone(answer), number))
			}
		}
		l = longer
	}
	return l
}

// A trial is a truth, and an answer.
type trial struct{ truth, answer []int }

// trials returns all truths of up to 4 packets with all answers whose numbers are below 4, and some with more packets.
func trials(t *testing.T) []trial {
	t.Helper()
	var l []trial
	for n := 1; n <= 4; n++ {
		for _, truth := range truths(t, n) {
			for _, answer := range every(n, 4) {
				l = append(l, trial{truth, answer})
			}
		}
	}
	random := rand.New(rand.NewPCG(3, 5))
	for range 6000 {
		n := 5 + random.IntN(5)
		truth, near := aTruth(t, random, n), 1+random.IntN(3)
		answer := slices.Clone(truth)
		for range near {
			answer[random.IntN(n)] = random.IntN(api.MaxPackets)
		}
		if random.IntN(3) == 0 {
			answer = anAnswer(random, n)
		}
		l = append(l, trial{truth, answer})
	}
	return l
}

// aTruth returns some partition of n packets.
func aTruth(t *testing.T, random *rand.Rand, n int) []int {
	t.Helper()
	labels := make([]int, n)
	for i := range labels {
		labels[i] = random.IntN(1 + random.IntN(n))
	}
	return must[[]int](t)(chart.Of(labels))
}

// anAnswer returns some answer about n packets.
func anAnswer(random *rand.Rand, n int) []int {
	answer := make([]int, n)
	for i := range answer {
		answer[i] = random.IntN(2+random.IntN(api.MaxPackets)) - 1
	}
	return answer
}

// isRight tells whether a pair is right, as the chapter says it.
func (c trial) isRight(i, j int) bool {
	a, b := c.answer[i], c.answer[j]
	return a != -1 && b != -1 && (a == b) == (c.truth[i] == c.truth[j])
}

// rightPacket tells whether a packet is right, as the chapter says it.
func (c trial) rightPacket(i int) bool {
	for j := range i {
		if c.answer[j] != -1 && !c.isRight(i, j) {
			return false
		}
	}
	return c.answer[i] != -1
}

// newHeard tells whether a packet is a new one that is heard, as the chapter says it.
func (c trial) newHeard(i int) bool {
	for j := range c.truth {
		if j != i && (c.truth[j] == c.truth[i] || c.answer[j] == c.answer[i]) {
			return false
		}
	}
	return c.answer[i] != -1
}

// moves returns how few packets can be left out so that all other pairs are right: this is how few have to be moved.
func (c trial) moves() int {
	n := len(c.truth)
	least := n
sets:
	for set := range 1 << n {
		var left []int
		for i := range n {
			if set>>i&1 == 1 {
				left = append(left, i)
			}
		}
		for k, i := range left {
			for _, j := range left[:k] {
				if !c.isRight(i, j) {
					continue sets
				}
			}
		}
		least = min(least, n-len(left))
	}
	return least
}

// score is the score of the answer, put together from what the chapter says, one thing after the other.
func (c trial) score(s api.Scoring) api.Score {
	var x api.Score
	written := 0
	for i, number := range c.answer {
		if number != -1 {
			written++
		}
		if c.rightPacket(i) {
			x.Packets++
		} else if number != -1 {
			x.Wrong++
		}
		if c.newHeard(i) {
			x.New++
		}
		for j := range i {
			if c.isRight(i, j) {
				x.Pairs++
			}
		}
	}
	for x.Start < len(c.truth) && c.rightPacket(x.Start) {
		x.Start++
	}
	if n := len(c.truth); written == n {
		if x.Pairs == n*(n-1)/2 {
			x.Whole = 1
		}
		switch c.moves() {
		case 0:
			x.Honour = 3
		case 1:
			x.Honour = 2
		case 2:
			x.Honour = 1
		}
	}
	x.Points = s.Packet*x.Packets + s.Pair*x.Pairs + s.New*x.New - s.Loss*x.Wrong
	if x.Whole == 1 {
		x.Points += s.Whole
	}
	return x
}

// aDeed returns some deed, often one that can be done.
func aDeed(random *rand.Rand, packets, guests int) api.Deed {
	switch random.IntN(12) {
	case 0, 1:
		return pass()
	case 2:
		return pause()
	case 3, 4:
		return resume()
	case 5:
		return closing()
	case 6:
		return opening()
	case 7:
		return api.Deed{Kind: random.IntN(10) - 1, Guest: random.IntN(3) - 1, Packet: random.IntN(3) - 1, Number: random.IntN(12) - 2}
	}
	return write(random.IntN(guests), random.IntN(packets), random.IntN(api.MaxPackets+1)-1)
}

// A play is a table, and deeds at it.
type play struct {
	t     api.Table
	deeds []api.Deed
}

// plays returns so many tables with deeds, the same ones each time; after most of them the table is shown.
func plays(count int) []play {
	random := rand.New(rand.NewPCG(13, 17))
	var l []play
	for i := range count {
		packets, guests := 1+random.IntN(api.MaxPackets), 1+random.IntN(api.MaxGuests)
		var deeds []api.Deed
		for range random.IntN(60) {
			deeds = append(deeds, aDeed(random, packets, guests))
		}
		if i%4 > 0 {
			deeds = append(deeds, resume())
			for range packets {
				deeds = append(deeds, pass(), write(random.IntN(guests), random.IntN(packets), random.IntN(api.MaxPackets)))
			}
			deeds = append(deeds, closing(), opening())
		}
		l = append(l, play{fresh(packets, guests), deeds})
	}
	return l
}

// run does the deeds of a play.
func (p play) run(t *testing.T) (api.Table, []api.Errno) {
	t.Helper()
	after, returned, e := score.Run(p.t, p.deeds)
	if e != api.OK || len(returned) != len(p.deeds) {
		t.Fatal("unexpected", e, p, returned)
	}
	return after, returned
}

// reloaded returns a table that was saved and loaded.
func reloaded(t *testing.T, table api.Table) api.Table {
	t.Helper()
	back, row, e := score.Load(must[string](t)(score.Save(table)))
	if row != 0 || e != api.OK {
		t.Fatal("unexpected", row, e, table)
	}
	return back
}
