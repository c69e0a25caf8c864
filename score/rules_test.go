package score_test

import (
	"math"
	"slices"
	"strings"
	"testing"

	"aloeswood/api"
	"aloeswood/score"
)

// input is what the functions of the package are called with.
type input struct {
	s             api.Scoring
	truth, answer []int
	answers       [][]int
	t             api.Table
	deeds         []api.Deed
	text          string
}

// deed returns the first deed, or none.
func (in input) deed() api.Deed {
	if len(in.deeds) == 0 {
		return api.Deed{}
	}
	return in.deeds[0]
}

// calls returns the functions of the package, each with what it returns: its error, and whether all else is zero.
func (in input) calls() map[string]func() (api.Errno, bool) {
	two := func(scores []api.Score, places []int, e api.Errno) (api.Errno, bool) {
		return e, len(scores)+len(places) == 0
	}
	return map[string]func() (api.Errno, bool){
		"Check":      func() (api.Errno, bool) { return score.Check(in.s), true },
		"CheckTable": func() (api.Errno, bool) { return score.CheckTable(in.t), true },
		"Mark": func() (api.Errno, bool) {
			x, e := score.Mark(in.s, in.truth, in.answer)
			return e, x == api.Score{}
		},
		"Rank":   func() (api.Errno, bool) { return two(score.Rank(in.s, in.truth, in.answers)) },
		"Result": func() (api.Errno, bool) { return two(score.Result(in.s, in.truth, in.t)) },
		"Do":     func() (api.Errno, bool) { t, e := score.Do(in.t, in.deed()); return e, isZero(t) },
		"Run": func() (api.Errno, bool) {
			t, l, e := score.Run(in.t, in.deeds)
			return e, isZero(t) && len(l) == 0
		},
		"Save": func() (api.Errno, bool) { s, e := score.Save(in.t); return e, s == "" },
		"Load": func() (api.Errno, bool) {
			t, row, e := score.Load(in.text)
			return e, isZero(t) && (row == 0 || e == api.ErrForm || e == api.ErrClash)
		},
	}
}

// strange returns arguments with any values.
func strange() []input {
	numbers := []int{math.MinInt, -2, -1, 0, 1, 5, 8, 9, 1001, math.MaxInt}
	lists := [][]int{nil, {}, {0}, {0, 0}, {0, 1}, {-1, 0}, {-1, -1}, {8, 8}, {0, 9}, {math.MinInt, math.MaxInt}, abac(), make([]int, 9), make([]int, 100000)}
	texts := []string{"", "\n", " ", "table", "end 0\n", head, tail, head + tail, head + "guest -\n" + tail, "\x00\xff", strings.Repeat("\n", 2000), strings.Repeat(" ", 2000), head + strings.Repeat("guest\n", 300), head + strings.Repeat("guest -\n", 100000)}
	var l []input
	for i := range 20000 {
		pick := func(step int) int { return numbers[(i/step+i)%len(numbers)] }
		list := func(step int) []int { return lists[(i/step+i)%len(lists)] }
		d := api.Deed{Kind: i % 8, Guest: pick(3), Packet: pick(7), Number: pick(11)}
		in := input{truth: list(2), answer: list(3), answers: [][]int{list(5), list(7)}, deeds: []api.Deed{d, {Kind: pick(1)}, d}, text: texts[i%len(texts)]}
		if i%3 == 0 {
			in.s = api.Scoring{Packet: pick(2), Pair: pick(3), Whole: pick(5), New: pick(7), Loss: pick(11), Keys: list(13)}
		}
		in.t = api.Table{Packets: pick(2), Passed: pick(3), State: i % 6, Answers: [][]int{list(5), list(11)}}
		if i%2 == 0 {
			in.t = at(i/2%3, 1+i/6%4)
		}
		if i%1000 == 0 {
			in.deeds, in.answers, in.t.Answers = make([]api.Deed, 100000), make([][]int, 100000), make([][]int, 100000)
		}
		l = append(l, in)
	}
	return l
}

// P1, R3, R5: no argument makes a function panic, and all is zero beside an error.
func TestAnyArguments(t *testing.T) {
	done := map[string]int{}
	for _, in := range strange() {
		for function, call := range in.calls() {
			e, zero := call()
			if e != api.OK && !zero {
				t.Fatal(function, in, e)
			}
			if e == api.OK {
				done[function]++
			}
		}
	}
	// All but Result are called with what is valid as well.
	if len(done) < 8 {
		t.Error(done)
	}
}

// R4: a nil slice and an empty one are equal.
func TestNilAndEmptyAreEqual(t *testing.T) {
	s := keyed()
	s.Keys = []int{}
	if x, e := score.Mark(s, abac(), abac()); x != must[api.Score](t)(score.Mark(keyed(), abac(), abac())) || e != api.OK {
		t.Error(x, e)
	}
	none := fresh(1, 0)
	none.Answers = [][]int{}
	short := fresh(1, 1)
	short.Answers[0] = []int{}
	if e := score.CheckTable(none); e != api.ErrShort {
		t.Error(e)
	}
	if e := score.CheckTable(short); e != api.ErrForm {
		t.Error(e)
	}
	if _, e := score.Mark(example(), []int{}, []int{}); e != api.ErrShort {
		t.Error(e)
	}
	if _, e := score.Mark(example(), abac(), []int{}); e != api.ErrForm {
		t.Error(e)
	}
}

// spoil changes all numbers of lists, also those behind their ends.
func spoil(lists ...[]int) {
	for _, l := range lists {
		for i := range l[:cap(l)] {
			l[:cap(l)][i] = 77
		}
	}
}

// R4: what is given is not changed, and what is returned is new each time, and shares nothing.
func TestArgumentsAndResultsAreApart(t *testing.T) {
	given := at(2, api.TableOpen, []int{3, -1}, []int{-1, 0})
	want := copied(given)
	deeds := []api.Deed{write(0, 0, 5), write(1, 1, 6), write(0, 0, 5)}
	for _, do := range []func() api.Table{
		func() api.Table { return must[api.Table](t)(score.Do(given, write(0, 1, 4))) },
		func() api.Table { return must[api.Table](t)(score.Do(given, pause())) },
		func() api.Table { after, _ := play{given, deeds}.run(t); return after },
		func() api.Table { after, _ := play{given, nil}.run(t); return after },
		func() api.Table { return reloaded(t, given) },
	} {
		first, second := do(), do()
		if !same(first, second) || !same(given, want) {
			t.Fatal(first, second, given)
		}
		spoil(first.Answers[0])
		if !slices.Equal(first.Answers[1], second.Answers[1]) || !same(given, want) || !same(do(), second) {
			t.Fatal(first, second, given)
		}
	}
	if !slices.Equal(deeds, []api.Deed{write(0, 0, 5), write(1, 1, 6), write(0, 0, 5)}) {
		t.Error(deeds)
	}
	s, truth, answers := example(), abac(), [][]int{{0, 0, 0, 1}, {0, -1, 0, -1}}
	scores, places := ranked(t, s, truth, answers)
	spoil(places)
	again, others := ranked(t, s, truth, answers)
	if !slices.Equal(scores, again) || !slices.Equal(others, []int{1, 2}) {
		t.Error(again, others)
	}
	if !slices.Equal(s.Keys, example().Keys) || !slices.Equal(truth, abac()) || !slices.Equal(answers[0], []int{0, 0, 0, 1}) || !slices.Equal(answers[1], []int{0, -1, 0, -1}) {
		t.Error(s, truth, answers)
	}
}

// Results do not depend on the order of a map: the same is returned each time.
func TestResultsAreTheSameEachTime(t *testing.T) {
	for _, p := range plays(30) {
		after, returned := p.run(t)
		text := must[string](t)(score.Save(after))
		for range 5 {
			again, other := p.run(t)
			if !same(after, again) || !slices.Equal(returned, other) || must[string](t)(score.Save(again)) != text || !same(reloaded(t, again), after) {
				t.Fatal(p)
			}
		}
	}
}
