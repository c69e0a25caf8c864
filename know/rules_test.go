package know_test

import (
	"math"
	"slices"
	"strings"
	"testing"

	"aloeswood/api"
	"aloeswood/know"
)

// input is what the functions of the package are called with.
type input struct {
	m              api.Mind
	n              api.Nose
	a              api.Ask
	rule, after    int
	answer, course []int
}

// calls returns the functions of the package, each with what it returns: its error, and whether all else is zero.
func (in input) calls() map[string]func() (api.Errno, bool) {
	return map[string]func() (api.Errno, bool){
		"Check": func() (api.Errno, bool) { return know.Check(in.m), true },
		"Left":  func() (api.Errno, bool) { l, w, e := know.Left(in.m); return e, len(l)+len(w) == 0 },
		"Sure":  func() (api.Errno, bool) { l, e := know.Sure(in.m); return e, len(l) == 0 },
		"Pairs": func() (api.Errno, bool) { l, e := know.Pairs(in.m); return e, len(l) == 0 },
		"Cut":   func() (api.Errno, bool) { m, e := know.Cut(in.m, in.after); return e, equal(m, api.Mind{}) },
		"Decided": func() (api.Errno, bool) {
			l, is, e := know.Decided(in.m, in.a)
			return e, len(l) == 0 && !is
		},
		"Points": func() (api.Errno, bool) {
			n, e := know.Points(in.m.Game, in.a, in.rule, in.answer, in.course)
			return e, n == 0
		},
		"Best": func() (api.Errno, bool) {
			l, sum, of, e := know.Best(in.m, in.a, in.rule)
			return e, len(l) == 0 && sum == 0 && of == 0
		},
		"Skill": func() (api.Errno, bool) {
			sum, of, e := know.Skill(in.m.Game, in.n, in.a, in.rule)
			return e, sum == 0 && of == 0
		},
	}
}

// strange returns arguments with any values.
func strange() []input {
	numbers := []int{math.MinInt, -1, 0, 1, 2, 3, 5, 8, 9, math.MaxInt}
	lists := [][]int{nil, {}, {0}, {0, 1}, {0, 2, 0}, {2, 1, 0}, {-1, 0, 9}, {math.MinInt, 0, math.MaxInt}, make([]int, 100000)}
	games := []api.Game{{}, with(3), with(2, place(0), place(1)), with(3, mix(0, 0, 12), pass(0, 9)), {Woods: []api.Wood{{Name: strings.Repeat("\xff", 9)}}}, with(1, make([]api.Deal, 100000)...)}
	rows := [][]int{{7, 3, 0}, {3, 7, 0}, {0, 0, 10}, nil, {10}, {5, 5}, {11, -1, 0}, {math.MaxInt, math.MaxInt, 12}, make([]int, 100000)}
	var l []input
	for i := range 6000 {
		pick := func(step int) int { return numbers[(i/step+i)%len(numbers)] }
		list := func(step int) []int { return lists[(i/step+i)%len(lists)] }
		in := input{m: mindM(), n: nose(), a: api.Ask{Kind: i % 8, Wood: pick(3)}, rule: i / 7 % 4, after: pick(5), answer: list(2), course: list(3)}
		if i%2 == 0 {
			in.a.Wood = 0
		}
		switch i / 8 % 8 {
		case 0:
			in.m.Game = games[i/64%len(games)]
		case 1:
			in.n = api.Nose{Take: [][]int{rows[i/64%len(rows)], rows[i/5%len(rows)], rows[2]}}
			in.m.Noses = append(in.m.Noses, in.n)
		case 2:
			in.m.Smells = append(in.m.Smells, api.Smell{Nose: pick(2), Censer: pick(7), Wood: pick(11)})
		case 3:
			in.m.Facts = []api.Fact{{Kind: pick(2), A: pick(3), B: pick(7)}, {Kind: pick(13), A: pick(11), B: pick(2)}}
		case 4:
			in.rule, in.a.Kind = pick(2), pick(3)
		case 5:
			in.m.Facts = []api.Fact{{Kind: 1 + i%4, A: i / 4 % 3, B: i / 12 % 3}}
		}
		if i%1000 == 1 {
			in.m.Noses, in.m.Smells, in.m.Facts, in.n.Take = make([]api.Nose, 100000), make([]api.Smell, 100000), make([]api.Fact, 100000), make([][]int, 100000)
		}
		l = append(l, in)
	}
	return l
}

// P1, R3, R5: no argument makes a function panic, and all is zero beside an error.
func TestAnyArguments(t *testing.T) {
	done, refused := map[string]int{}, map[string]int{}
	for _, in := range strange() {
		for function, call := range in.calls() {
			e, zero := call()
			if e != api.OK && !zero {
				t.Fatal(function, in, e)
			}
			if e == api.OK {
				done[function]++
			} else {
				refused[function]++
			}
		}
	}
	// All are called with what is valid as well.
	if len(done) < 9 || len(refused) < 9 {
		t.Error(done, refused)
	}
}

// R4: a nil slice and an empty one are equal.
func TestNilAndEmptyAreEqual(t *testing.T) {
	empty := api.Mind{Game: example(), Noses: []api.Nose{}, Smells: []api.Smell{}, Facts: []api.Fact{}}
	l, weights := leftOf(t, api.Mind{Game: example()})
	if other, each := leftOf(t, empty); !same(l, other) || !slices.Equal(weights, each) {
		t.Error(other, each)
	}
	if cut := must[api.Mind](t)(know.Cut(empty, 1)); !equal(cut, empty) {
		t.Error(cut)
	}
	for _, take := range [][][]int{nil, {}, {{}, {}, {}}, {nil, nil, nil}} {
		if e := know.Check(api.Mind{Game: example(), Noses: []api.Nose{{Take: take}}}); e != api.ErrForm {
			t.Error(take, e)
		}
	}
	for _, answer := range [][]int{nil, {}} {
		if n, e := know.Points(example(), api.Ask{Kind: api.AskNew}, api.PointWhole, answer, []int{0, 1, 0}); n != 1 || e != api.OK {
			t.Error(n, e)
		}
		if _, e := know.Points(example(), api.Ask{Kind: api.AskName}, api.PointWhole, answer, []int{0, 1, 0}); e != api.ErrForm {
			t.Error(e)
		}
	}
}

// spoil changes all numbers of lists, also those behind their ends.
func spoil(lists ...[]int) {
	for _, l := range lists {
		for i := range l[:cap(l)] {
			l[:cap(l)][i] = 77
		}
	}
}

// apart fails the test if a change of one list changes another one.
func apart(t *testing.T, lists [][]int) {
	t.Helper()
	var want [][]int
	for _, l := range lists {
		want = append(want, slices.Clone(l))
	}
	for i, l := range lists {
		spoil(l)
		if !same(lists[i+1:], want[i+1:]) {
			t.Fatal(i, lists, want)
		}
	}
}

// R4: what is given is not changed, and what is returned is new each time, and shares nothing.
func TestArgumentsAndResultsAreApart(t *testing.T) {
	m := told(mindK(), is(1, 2), other(0, 1))
	want := copied(m)
	in := input{m: m, n: nose(), a: api.Ask{Kind: api.AskName}, rule: api.PointEach, after: 2, answer: []int{0, 2, 0}, course: []int{0, 2, 1}}
	for function, call := range in.calls() {
		if e, _ := call(); e != api.OK {
			t.Error(function, e)
		}
	}
	if !equal(m, want) || !same(in.n.Take, nose().Take) || !slices.Equal(in.answer, []int{0, 2, 0}) || !slices.Equal(in.course, []int{0, 2, 1}) {
		t.Error(in)
	}
	l, weights := leftOf(t, m)
	apart(t, append(l, weights))
	apart(t, must[[][]int](t)(know.Sure(m)))
	apart(t, must[[][]int](t)(know.Pairs(m)))
	decided, _, _ := know.Decided(told(m, alike(0, 2)), in.a)
	best, _, _ := bestOf(t, m, in.a, api.PointEach)
	apart(t, [][]int{decided, best})
	if again, _, _ := bestOf(t, m, in.a, api.PointEach); !slices.Equal(again, []int{0, 2, 0}) || !equal(m, want) {
		t.Error(again, m)
	}
}

// R4: a mind that was cut shares nothing with the one that it comes from.
func TestCutsAreApart(t *testing.T) {
	m := told(mindK(), is(1, 2), other(0, 1))
	want := copied(m)
	for after := range 4 {
		cut := must[api.Mind](t)(know.Cut(m, after))
		again := must[api.Mind](t)(know.Cut(m, after))
		kept := copied(again)
		spoil(cut.Noses[0].Take...)
		for _, l := range [][]api.Smell{cut.Smells, cut.Smells[:cap(cut.Smells)]} {
			for i := range l {
				l[i] = api.Smell{Nose: 77}
			}
		}
		for _, l := range [][]api.Fact{cut.Facts, cut.Facts[:cap(cut.Facts)]} {
			for i := range l {
				l[i] = api.Fact{Kind: 77}
			}
		}
		cut.Noses[0] = api.Nose{}
		cut.Game.Woods[0], cut.Game.Deals[0] = api.Wood{}, api.Deal{}
		if !equal(m, want) || !equal(again, kept) {
			t.Fatal(after, m, again)
		}
	}
}

// The same is returned each time.
func TestResultsAreTheSameEachTime(t *testing.T) {
	for _, m := range minds(t, 20) {
		l, weights := leftOf(t, m.Mind)
		for _, a := range asks(m.Game) {
			answer, sum, of := bestOf(t, m.Mind, a, api.PointEach)
			for range 3 {
				other, each := leftOf(t, m.Mind)
				again, s, o := bestOf(t, m.Mind, a, api.PointEach)
				if !same(l, other) || !slices.Equal(weights, each) || !slices.Equal(answer, again) || s != sum || o != of {
					t.Fatal(m, a)
				}
			}
		}
	}
}
