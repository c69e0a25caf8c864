package house_test

import (
	"math"
	"math/rand/v2"
	"slices"
	"strconv"
	"strings"
	"testing"

	"aloeswood/api"
	"aloeswood/house"
)

// calls returns the functions of the package, each with what it returns: its error, and whether all else is zero.
func calls(h api.House, text string) map[string]func() (api.Errno, bool) {
	return map[string]func() (api.Errno, bool){
		"Check":  func() (api.Errno, bool) { return house.Check(h), true },
		"Run":    func() (api.Errno, bool) { said, e := house.Run(h, text); return e, said == "" },
		"Keep":   func() (api.Errno, bool) { hall, e := house.Keep(h, text); return e, isZero(hall) },
		"Report": func() (api.Errno, bool) { rows, e := house.Report(h, text); return e, rows == "" },
	}
}

// odd returns a number of any size.
func odd(random *rand.Rand) int {
	numbers := []int{math.MinInt, math.MinInt + 1, -8, -2, -1, 0, 1, 2, 3, 4, 5, 6, 7, 8, 9, 10, 15, 16, 20, 41, 63, 64, 255, 256, 1000, 1000000, 1000001, math.MaxInt - 1, math.MaxInt}
	return numbers[random.IntN(len(numbers))]
}

// upset sets something of a house to any value.
func upset(random *rand.Rand, h *api.House) {
	n := odd(random)
	many := random.IntN(2) * 100000
	h.Variants = append(h.Variants, api.Variant{Name: "x"})
	variant, member := &h.Variants[random.IntN(len(h.Variants))], &h.Members[random.IntN(len(h.Members))]
	changes := []func(){
		func() { variant.Grade = n },
		func() { variant.Name = strings.Repeat("\xff", many) },
		func() { h.Variants = make([]api.Variant, many) },
		func() { member.Teacher = n },
		func() { member.Grade = n },
		func() { member.Holds = n },
		func() { member.Name = strings.Repeat("ann", many) },
		func() { h.Members = make([]api.Member, many) },
		func() { h.Members = append(h.Members, pupil("x", n, odd(random), odd(random))) },
		func() { h.Game.Deals = append(h.Game.Deals, api.Deal{Kind: n, Bag: odd(random), Count: odd(random)}) },
		func() { h.Game.Woods = make([]api.Wood, many) },
		func() { h.Scoring.Pair = n },
		func() { h.Scoring.Keys = make([]int, many) },
		func() { h.Rite.Wide, h.Rite.Deep = n, odd(random) },
		func() { h.Rite.Acts = append(h.Rite.Acts, api.Act{At: n, Who: odd(random), Kind: odd(random)}) },
		func() { h.Fire.Coals = append(h.Fire.Coals, api.Coal{Heat: api.Span{Lo: n, Hi: odd(random)}}) },
		func() { h.Kettle.Lose, h.Kettle.Room = n, odd(random) },
		func() { h.Pours = append(h.Pours, api.Pour{Minute: n, Ladles: odd(random)}) },
		func() { h.Numbers[random.IntN(len(h.Numbers))] = n },
		func() { h.Numbers = make([]int, many) },
	}
	changes[random.IntN(len(changes))]()
}

// someText returns a text that has words of sheets, and other bytes.
func someText(random *rand.Rand) string {
	if random.IntN(30) == 0 {
		return strings.Repeat(oneOf(random, "\n", "x\n", "gather ann\n", " ", "x"), []int{100, 101, 4000, 8000, 8001, 1000000}[random.IntN(6)])
	}
	parts := []string{"day", "join", "raise", "show", "split", "line", "hold", "gather", "pass", "write", "pause", "resume", "close", "open", "sing", "rite", name(0), name(1), name(2), name(20), "0", "1", "3", "-", "300", "999999", "", "\t", "\x00", "\xff", "é", "-1"}
	var text strings.Builder
	for range random.IntN(120) {
		text.WriteString(oneOf(random, parts...) + oneOf(random, " ", " ", "\n"))
	}
	if random.IntN(8) > 0 {
		text.WriteString("\n")
	}
	return text.String()
}

// P1, R3, R5: no argument makes a function panic, and all is zero beside an error.
func TestAnyArguments(t *testing.T) {
	random := rand.New(rand.NewPCG(21, 10))
	done, refused := map[string]int{}, map[string]int{}
	for i := range 4000 {
		h := someHouse(random)
		if i%3 > 0 {
			upset(random, &h)
		}
		for function, call := range calls(h, someText(random)) {
			e, zero := call()
			if e != api.OK && !zero {
				t.Fatal(function, h, e)
			}
			if e == api.OK {
				done[function]++
			} else {
				refused[function]++
			}
		}
	}
	// All are called with what is valid, and with what is not.
	for function := range calls(api.House{}, "") {
		if done[function] < 500 || refused[function] < 500 {
			t.Error(function, done, refused)
		}
	}
	if e := house.Check(api.House{}); e != api.ErrShort {
		t.Error(e)
	}
}

// Each text is judged line by line, whatever its bytes are.
func TestAnyTexts(t *testing.T) {
	random := rand.New(rand.NewPCG(22, 10))
	for range 2000 {
		h, text := someHouse(random), someText(random)
		said, e := house.Run(h, text)
		if e != api.OK {
			continue
		}
		j := judgeOf(h)
		lines, got := linesOf(t, text), linesOf(t, said)
		if len(lines) != len(got) {
			t.Fatalf("%q: %q", text, said)
		}
		for i, line := range lines {
			if want := j.reply(line); got[i] != want {
				t.Fatalf("%v %q: %q, not %q", h, lines[:i+1], got[i], want)
			}
		}
	}
}

// R4: a nil slice and an empty one are equal.
func TestNilAndEmptyAreEqual(t *testing.T) {
	lines := []string{"join eve ann", "gather ann", "pass", "write ann 0 1", "rite 1", "sing 1"}
	empty := houseWith(func(h *api.House) {
		h.Pours, h.Fire.Coals, h.Fire.Touches, h.Scoring.Keys = []api.Pour{}, []api.Coal{}, []api.Touch{}, []int{}
		h.Rite.Things, h.Rite.Seen, h.Rite.Lapses, h.Rite.Acts = []api.Thing{}, []int{}, []int{}, []api.Act{}
	})
	for _, h := range []api.House{houseH(), empty} {
		if got := replies(t, h, lines...); !slices.Equal(got, []string{"ok", "seats ann", "ok", "ok", "firm", "sure"}) {
			t.Error(got)
		}
	}
	for _, variants := range [][]api.Variant{nil, {}} {
		h := houseWith(func(h *api.House) { h.Variants, h.Members = variants, []api.Member{head("ann", 0, 0)} })
		if rows := told(t, h); !slices.Equal(rows, []string{"day 0", "member ann - 0", "end"}) {
			t.Error(rows)
		}
		h.Members[0].Holds = 1
		if e := house.Check(h); e != api.ErrRange {
			t.Error(e)
		}
	}
	for _, members := range [][]api.Member{nil, {}} {
		if e := house.Check(houseWith(func(h *api.House) { h.Members = members })); e != api.ErrShort {
			t.Error(e)
		}
	}
	for _, numbers := range [][]int{nil, {}} {
		if e := house.Check(houseWith(func(h *api.House) { h.Numbers = numbers })); e != api.ErrShort {
			t.Error(e)
		}
	}
}

// R4: what is given is not changed, also what lies behind the ends of its lists.
func TestArgumentsStay(t *testing.T) {
	for _, p := range plays(23, 60, 80) {
		h := copied(p.h)
		members := append(slices.Clone(p.h.Members), pupil("x", 0, 0, 0), pupil("y", 0, 0, 0))
		deals := append(slices.Clone(p.h.Game.Deals), api.Deal{Kind: 77})
		acts := append(slices.Clone(p.h.Rite.Acts), api.Act{Kind: 77})
		numbers := append(slices.Clone(p.h.Numbers), 77)
		wantMembers, wantDeals, wantActs, wantNumbers := slices.Clone(members), slices.Clone(deals), slices.Clone(acts), slices.Clone(numbers)
		h.Members, h.Game.Deals, h.Rite.Acts, h.Numbers = members[:len(h.Members)], deals[:len(h.Game.Deals)], acts[:len(h.Rite.Acts)], numbers[:len(h.Numbers)]
		before := copied(h)
		for function, call := range calls(h, sheet(p.lines...)) {
			if e, _ := call(); e != api.OK || !sameHouse(copied(h), before) || !slices.Equal(members, wantMembers) || !slices.Equal(deals, wantDeals) || !slices.Equal(acts, wantActs) || !slices.Equal(numbers, wantNumbers) {
				t.Fatal(function, p, h, e)
			}
		}
	}
}

// blot changes all that a list has, also what is behind its end.
func blot[T any](l []T, with T) {
	for i := range l[:cap(l)] {
		l[:cap(l)][i] = with
	}
}

// parts returns all lists of numbers of a hall.
func parts(h api.Hall) [][]int {
	l := append([][]int{h.Guests, h.Course}, h.Table.Answers...)
	for _, r := range h.Records {
		l = append(l, r.Guests, r.Points, r.Places)
	}
	return l
}

// R4: what is returned is new each time, and shares nothing with what is given, or with another result.
func TestResultsAreApart(t *testing.T) {
	game := []string{"pass", "pass", "pass", "write ann 1 1", "close", "open"}
	lines := slices.Concat([]string{"join eve ann", "gather ann bob"}, game, []string{"gather bob cid ann"}, game, []string{"gather bob cid ann", "pass", "write bob 0 3"})
	h := houseH()
	first, second := kept(t, h, lines...), kept(t, h, lines...)
	if len(first.Records) != 2 || len(first.Guests) != 3 || !same(first, second) {
		t.Fatal(first, second)
	}
	blot(first.Members, pupil("x", 7, 7, 7))
	for _, l := range parts(first) {
		blot(l, 77)
	}
	blot(first.Records, api.Record{Day: 77})
	blot(first.Table.Answers, nil)
	if third := kept(t, h, lines...); !same(second, third) || !sameHouse(copied(h), copied(houseH())) {
		t.Error(second, third, h)
	}
	// Neither do the lists of one result share anything.
	for i, l := range parts(second) {
		before := make([][]int, len(parts(second)))
		for k, other := range parts(second) {
			before[k] = slices.Clone(other)
		}
		blot(l, 50+i)
		for k, other := range parts(second) {
			if k != i && !slices.Equal(other, before[k]) {
				t.Error(i, k, other, before[k])
			}
		}
	}
	// A house that is changed later changes no hall.
	second = kept(t, h, lines...)
	blot(h.Members, pupil("x", 7, 7, 7))
	blot(h.Numbers, 1)
	if third := kept(t, houseH(), lines...); !same(second, third) {
		t.Error(second, third)
	}
}

// P10.3, R2, R6: a sheet is replayed to the same replies, hall and report, whatever was played before.
func TestResultsAreTheSameEachTime(t *testing.T) {
	l := plays(24, 40, 80)
	type result struct {
		said, rows []string
		hall       api.Hall
	}
	of := func(p play) result {
		return result{replies(t, p.h, p.lines...), told(t, p.h, p.lines...), kept(t, p.h, p.lines...)}
	}
	var first []result
	for _, p := range l {
		first = append(first, of(p))
	}
	for range 5 {
		for i, p := range slices.Backward(l) {
			if now := of(p); !slices.Equal(now.said, first[i].said) || !slices.Equal(now.rows, first[i].rows) || !same(now.hall, first[i].hall) {
				t.Fatal(p, now, first[i])
			}
		}
	}
}

// The longest sheets of the greatest house are replayed without an end that is too far off.
func TestTheGreatestHouses(t *testing.T) {
	h := houseWith(func(h *api.House) {
		h.Variants, h.Members, h.Game = eight(), twenty(), manyCourses()
		h.Rite = wiping(0)
		h.Rite.Lapses = []int{api.LapseHand, api.LapseLate}
		for at := 5; len(h.Rite.Acts) < api.MaxActs; at++ {
			a := h.Rite.Acts[len(h.Rite.Acts)-5]
			a.At = at
			h.Rite.Acts = append(h.Rite.Acts, a)
		}
		for i := range h.Members {
			h.Members[i].Grade, h.Members[i].Holds = 9, 255
		}
		for i := range api.MaxCoals {
			h.Fire.Coals = append(h.Fire.Coals, api.Coal{Catch: api.Span{Lo: 1, Hi: 300}, Burn: api.Span{Lo: 1, Hi: 300}, Heat: api.Span{Lo: 0, Hi: 1000}, Lit: i%2 == 0})
		}
		h.Numbers = slices.Repeat([]int{1000000}, api.MaxNumbers)
	})
	for _, c := range [][]string{
		slices.Repeat([]string{"rite 9"}, 100),
		slices.Repeat([]string{"sing 300"}, 100),
		slices.Repeat([]string{"hold h", "line " + h.Members[19].Name}, 50),
		slices.Concat([]string{"gather " + strings.Join([]string{h.Members[3].Name, h.Members[19].Name, h.Members[7].Name, h.Members[1].Name, h.Members[11].Name}, " ")}, slices.Repeat([]string{"pass"}, 9), slices.Repeat([]string{"write " + h.Members[7].Name + " 8 8"}, 88), []string{"close", "open"}),
	} {
		if got := replies(t, h, c...); len(got) != 100 || isRefused(got[0]) || isRefused(got[99]) {
			t.Error(c, got)
		}
	}
	// As many gatherings as there are lines for, each one on a day of its own.
	h.Game = gameOf("place 2")
	var lines []string
	for day := range 20 {
		lines = append(lines, "day "+strconv.Itoa(50*day), "gather "+h.Members[day].Name, "pass", "close", "open")
	}
	hall := kept(t, h, lines...)
	for day, r := range hall.Records {
		if r.Day != 50*day || !slices.Equal(r.Guests, []int{day}) {
			t.Error(day, r)
		}
	}
	if len(hall.Records) != 20 || len(told(t, h, lines...)) != 2+20+20 {
		t.Error(hall)
	}
}
