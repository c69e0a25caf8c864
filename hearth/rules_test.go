package hearth_test

import (
	"math"
	"math/rand/v2"
	"slices"
	"strings"
	"testing"

	"aloeswood/api"
	"aloeswood/hearth"
)

// input is what the functions of the package are called with.
type input struct {
	setting
	minute, from, to int
	text             string
}

// calls returns the functions of the package, each with what it returns: its error, and whether all else is zero.
func (in input) calls() map[string]func() (api.Errno, bool) {
	return map[string]func() (api.Errno, bool){
		"Check":       func() (api.Errno, bool) { return hearth.Check(in.f), true },
		"CheckKettle": func() (api.Errno, bool) { return hearth.CheckKettle(in.k), true },
		"CheckPours":  func() (api.Errno, bool) { return hearth.CheckPours(in.k, in.l), true },
		"Begins":      func() (api.Errno, bool) { l, e := hearth.Begins(in.f); return e, len(l) == 0 },
		"Heat":        func() (api.Errno, bool) { s, e := hearth.Heat(in.f, in.minute); return e, s == api.Span{} },
		"Run":         func() (api.Errno, bool) { l, e := hearth.Run(in.k, in.f, in.l, in.minute); return e, len(l) == 0 },
		"Sings":       func() (api.Errno, bool) { l, e := hearth.Sings(in.k, in.f, in.l, in.minute); return e, len(l) == 0 },
		"When": func() (api.Errno, bool) {
			sure, perhaps, e := hearth.When(in.k, in.f, in.l, in.minute)
			return e, sure == 0 && perhaps == 0
		},
		"Lay":   func() (api.Errno, bool) { l, e := hearth.Lay(in.k, in.f, in.l, in.from, in.to); return e, len(l) == 0 },
		"Write": func() (api.Errno, bool) { s, e := hearth.Write(in.f); return e, s == "" },
		"Read": func() (api.Errno, bool) {
			f, row, e := hearth.Read(in.text)
			return e, isZero(f) && (row == 0 || e == api.ErrForm || e == api.ErrClash)
		},
	}
}

// odd returns a number of any size.
func odd(random *rand.Rand) int {
	numbers := []int{math.MinInt, math.MinInt + 1, -51, -50, -1, 0, 1, 2, 3, 5, 50, 51, 300, 301, 1000, 1001, 1000000, 1000001, math.MaxInt - 1, math.MaxInt}
	return numbers[random.IntN(len(numbers))]
}

// oddSpan returns a span of any numbers.
func oddSpan(random *rand.Rand) api.Span { return span(odd(random), odd(random)) }

// upset sets some fields to any values.
func (in *input) upset(random *rand.Rand) {
	in.f, in.l = copied(in.f), slices.Clone(in.l)
	switch random.IntN(14) {
	case 0:
		in.k = api.Kettle{Water: odd(random), Warm: oddSpan(random), Room: odd(random), Gain: odd(random), Lose: odd(random), Sing: odd(random), Boil: odd(random)}
	case 1:
		fields := []*int{&in.k.Water, &in.k.Warm.Lo, &in.k.Warm.Hi, &in.k.Room, &in.k.Gain, &in.k.Lose, &in.k.Sing, &in.k.Boil}
		*fields[random.IntN(len(fields))] = odd(random)
	case 2:
		in.f.Coals = append(in.f.Coals, api.Coal{Catch: oddSpan(random), Burn: oddSpan(random), Heat: oddSpan(random), Lit: true})
	case 3:
		in.f.Touches = append(in.f.Touches, api.Touch{A: odd(random), B: odd(random)})
	case 4:
		in.l = append(in.l, api.Pour{Minute: odd(random), Ladles: odd(random), Warm: odd(random)})
	case 5:
		in.minute = odd(random)
	case 6:
		in.from, in.to = odd(random), odd(random)
	case 7:
		if len(in.f.Coals) > 0 {
			c := &in.f.Coals[random.IntN(len(in.f.Coals))]
			fields := []*api.Span{&c.Catch, &c.Burn, &c.Heat}
			*fields[random.IntN(3)] = oddSpan(random)
		}
	case 8:
		in.f.Coals = make([]api.Coal, 100000)
	case 9:
		in.f.Touches = make([]api.Touch, 100000)
	case 10:
		in.l = make([]api.Pour, 100000)
	}
}

// texts are texts of many kinds.
func texts() []string {
	return []string{"", "\n", " ", "coal", "touch", "end", "end 0\n", "end 1\n", planF, planF + planF, coalRow, endRow, coalRow + endRow, "\x00\xff", strings.Repeat("\n", 4000), strings.Repeat(" ", 4000), strings.Repeat("touch 0 1\n", 300), strings.Repeat(coalRow, 100000), strings.Repeat("end 0\n", 600)}
}

// P1, R3, R5: no argument makes a function panic, and all is zero beside an error.
func TestAnyArguments(t *testing.T) {
	random := rand.New(rand.NewPCG(31, 7))
	done, refused, words := map[string]int{}, map[string]int{}, texts()
	for i, s := range settings(32, 3000, 9, 300) {
		in := input{setting: s, minute: random.IntN(301), from: random.IntN(20), text: words[i%len(words)]}
		in.to = in.from + random.IntN(20)
		for range i % 3 {
			in.upset(random)
		}
		for function, call := range in.calls() {
			e, zero := call()
			if e != api.OK && !zero {
				t.Fatal(function, in, e)
			}
			if e == api.OK {
				done[function]++
			} else {
				refused[function]++
			}
		}
	}
	// All are called with what is valid as well.
	if len(done) < 11 || len(refused) < 11 {
		t.Error(done, refused)
	}
}

// R4: a nil slice and an empty one are equal.
func TestNilAndEmptyAreEqual(t *testing.T) {
	k := kettleWith(func(k *api.Kettle) { k.Warm = one(500) })
	for _, f := range []api.Fire{{}, {Coals: []api.Coal{}, Touches: []api.Touch{}}} {
		for _, l := range [][]api.Pour{nil, {}} {
			begins := must[[]api.Span](t)(hearth.Begins(f))
			warmths := must[[]api.Span](t)(hearth.Run(k, f, l, 0))
			laid := must[[]int](t)(hearth.Lay(k, f, l, 0, 1))
			text := must[string](t)(hearth.Write(f))
			if len(begins)+len(laid) > 0 || !slices.Equal(warmths, []api.Span{one(500)}) || text != "end 0\n" {
				t.Error(begins, warmths, laid, text)
			}
		}
	}
	f := fireWith(func(f *api.Fire) { f.Touches = []api.Touch{} })
	if l := must[[]api.Span](t)(hearth.Begins(f)); !slices.Equal(l, []api.Span{one(0), never(), never()}) {
		t.Error(l)
	}
}

// blot changes all that a list has, also what is behind its end.
func blot[T any](l []T, with T) {
	for i := range l[:cap(l)] {
		l[:cap(l)][i] = with
	}
}

// R4: what is given is not changed, and what is returned is new each time, and shares nothing.
func TestArgumentsAndResultsAreApart(t *testing.T) {
	// What lies behind the ends of the lists must not be used, either.
	coals := append(fireF().Coals, api.Coal{Lit: true}, api.Coal{})
	touches := append(fireF().Touches, api.Touch{A: 9}, api.Touch{})
	pours := []api.Pour{{Minute: 1, Ladles: 2, Warm: 300}, {Minute: 3, Ladles: -1, Warm: 300}, {Minute: 4}, {}}
	in := input{setting: setting{kettleK(), api.Fire{Coals: coals[:3], Touches: touches[:2]}, pours[:2]}, minute: 4, from: 3, to: 4, text: planF}
	wantCoals, wantTouches, wantPours := slices.Clone(coals), slices.Clone(touches), slices.Clone(pours)
	intact := func() bool {
		return slices.Equal(coals, wantCoals) && slices.Equal(touches, wantTouches) && slices.Equal(pours, wantPours)
	}
	for _, to := range []int{4, 300} {
		in.to = to
		for function, call := range in.calls() {
			if call(); !intact() {
				t.Fatal(function, in)
			}
		}
	}
	for function, call := range map[string]func() []api.Span{
		"Begins": func() []api.Span { return must[[]api.Span](t)(hearth.Begins(in.f)) },
		"Run":    func() []api.Span { return must[[]api.Span](t)(hearth.Run(in.k, in.f, in.l, 4)) },
	} {
		apart(t, function, call, one(77))
	}
	hot := kettleWith(func(k *api.Kettle) { k.Sing, k.Boil = 600, 1000 })
	apart(t, "Sings", func() []int { return must[[]int](t)(hearth.Sings(in.k, in.f, in.l, 4)) }, 77)
	apart(t, "Lay", func() []int { return must[[]int](t)(hearth.Lay(hot, in.f, nil, 4, 6)) }, 77)
	apart(t, "Read", func() []api.Coal { f, _, _ := hearth.Read(planF); return f.Coals }, api.Coal{})
	apart(t, "Read", func() []api.Touch { f, _, _ := hearth.Read(planF); return f.Touches }, api.Touch{})
	if !intact() {
		t.Error(in)
	}
}

// apart fails the test if a change of what a function returned changes what it returned, or returns, another time.
func apart[T comparable](t *testing.T, function string, call func() []T, with T) {
	t.Helper()
	first := call()
	kept := slices.Clone(first)
	second := call()
	blot(first, with)
	if !slices.Equal(second, kept) || !slices.Equal(call(), kept) || len(kept) == 0 {
		t.Error(function, kept, second)
	}
}

// Results do not depend on the order of a map: the same is returned each time.
func TestResultsAreTheSameEachTime(t *testing.T) {
	for _, s := range settings(33, 200, 8, last) {
		begins := must[[]api.Span](t)(hearth.Begins(s.f))
		warmths := must[[]api.Span](t)(hearth.Run(s.k, s.f, s.l, last))
		choice, e := hearth.Lay(s.k, s.f, s.l, 5, 7)
		for range 5 {
			again, g := hearth.Lay(s.k, s.f, s.l, 5, 7)
			if !slices.Equal(must[[]api.Span](t)(hearth.Begins(s.f)), begins) || !slices.Equal(must[[]api.Span](t)(hearth.Run(s.k, s.f, s.l, last)), warmths) || !slices.Equal(again, choice) || e != g {
				t.Fatal(s)
			}
		}
	}
}

// The longest chain of coals begins at the same time in whichever order its touches are given.
func TestTouchesInAnyOrder(t *testing.T) {
	random := rand.New(rand.NewPCG(34, 7))
	f := chain(slices.Repeat([]api.Coal{{Catch: span(2, 3), Burn: span(4, 5)}}, 12)...)
	// No coal but the first one is lit, and this one burns from the beginning.
	want := must[[]api.Span](t)(hearth.Begins(f))
	for i, s := range want {
		if s != span(2*i, 3*i) {
			t.Fatal(want)
		}
	}
	for range 200 {
		random.Shuffle(len(f.Touches), func(i, k int) { f.Touches[i], f.Touches[k] = f.Touches[k], f.Touches[i] })
		i := random.IntN(len(f.Touches))
		f.Touches[i].A, f.Touches[i].B = f.Touches[i].B, f.Touches[i].A
		if l := must[[]api.Span](t)(hearth.Begins(f)); !slices.Equal(l, want) {
			t.Fatal(f, l)
		}
	}
}
