package seat_test

import (
	"math"
	"math/rand/v2"
	"slices"
	"strings"
	"testing"
	"unsafe"

	"aloeswood/api"
	"aloeswood/seat"
)

// input is what the functions of the package are called with.
type input struct {
	p                  api.Party
	order              []int
	l                  []api.Guest
	bonds              []api.Bond
	dishes             []api.Dish
	seats, turns, need int
	g                  api.Guest
	d                  api.Dish
	text               string
}

// calls returns the functions of the package, each with what it returns: its error, and whether all else is zero.
func (in input) calls() map[string]func() (api.Errno, bool) {
	return map[string]func() (api.Errno, bool){
		"Check": func() (api.Errno, bool) { return seat.Check(in.p), true },
		"Price": func() (api.Errno, bool) {
			l, price, e := seat.Price(in.p, in.order)
			return e, len(l)+price == 0
		},
		"Count": func() (api.Errno, bool) { n, e := seat.Count(in.p); return e, n == 0 },
		"Best": func() (api.Errno, bool) {
			l, price, e := seat.Best(in.p)
			return e, len(l)+price == 0
		},
		"Sure":     func() (api.Errno, bool) { l, e := seat.Sure(in.p); return e, len(l) == 0 },
		"Conflict": func() (api.Errno, bool) { l, e := seat.Conflict(in.p); return e, len(l) == 0 },
		"Invite": func() (api.Errno, bool) {
			l, honour, e := seat.Invite(in.l, in.bonds, in.seats)
			return e, len(l)+honour == 0
		},
		"Eats": func() (api.Errno, bool) { verdict, e := seat.Eats(in.g, in.d); return e, verdict == 0 },
		"Menu": func() (api.Errno, bool) {
			l, cost, e := seat.Menu(in.l, in.dishes, in.turns, in.need)
			return e, len(l)+cost == 0
		},
		"Write": func() (api.Errno, bool) { s, e := seat.Write(in.p); return e, s == "" },
		"Read": func() (api.Errno, bool) {
			p, row, e := seat.Read(in.text)
			return e, isZero(p) && (row == 0 || e == api.ErrForm)
		},
	}
}

// texts are texts of many kinds.
func texts() []string {
	return []string{"", "\n", " ", "guest", "rule", "guest eve", textP, textP + textP, guestRow, ruleRow, guestRow + ruleRow, "\x00\xff", "guest \xff\xfe 0 0 0 0\n", strings.Repeat("\n", 2000), strings.Repeat(" ", 2000), strings.Repeat(ruleRow, 100), strings.Repeat(guestRow, 100000), "guest " + strings.Repeat("a", 1900) + " 1 1 1 1\n"}
}

// someInput returns arguments that are valid.
func someInput(random *rand.Rand) input {
	in := input{p: someParty(random, 7, 12), l: someGuests(random, random.IntN(11)), seats: random.IntN(8), turns: 1 + random.IntN(4)}
	in.order, in.g = random.Perm(len(in.p.Guests)), in.p.Guests[0]
	in.bonds, in.dishes = someBonds(random, len(in.l)), someDishes(random, 16, 4)
	in.need, in.d, in.text = random.IntN(in.turns+1), api.Dish{Parts: random.IntN(256)}, textP
	return in
}

// odd returns a number of any size.
func odd(random *rand.Rand) int {
	numbers := []int{math.MinInt, math.MinInt + 1, -8, -1, 0, 1, 2, 3, 6, 7, 8, 9, 10, 11, 12, 63, 64, 65, 255, 256, 1000, 1001, math.MaxInt - 1, math.MaxInt}
	return numbers[random.IntN(len(numbers))]
}

// oddGuest, oddRule, oddBond and oddDish return what has any numbers.
func oddGuest(random *rand.Rand) api.Guest {
	names := append(badNames(), "a", "aa", "abcdefgh")
	return api.Guest{Name: names[random.IntN(len(names))], Rank: odd(random), Honour: odd(random), Never: odd(random), Maybe: odd(random)}
}

func oddRule(random *rand.Rand) api.Rule {
	return rule(odd(random), odd(random), odd(random), odd(random))
}

func oddBond(random *rand.Rand) api.Bond {
	return api.Bond{Kind: odd(random), A: odd(random), B: odd(random)}
}

func oddDish(random *rand.Rand) api.Dish {
	return api.Dish{Turn: odd(random), Parts: odd(random), Cost: odd(random)}
}

// upset sets some arguments to any values.
func (in *input) upset(random *rand.Rand) {
	switch random.IntN(16) {
	case 0:
		in.p.Guests = append(in.p.Guests, oddGuest(random))
	case 1:
		in.p.Rules = append(in.p.Rules, oddRule(random))
	case 2:
		in.order = append(in.order, odd(random))
	case 3:
		in.order[random.IntN(len(in.order))] = odd(random)
	case 4:
		in.l = append(in.l, oddGuest(random))
	case 5:
		in.bonds = append(in.bonds, oddBond(random))
	case 6:
		in.dishes = append(in.dishes, oddDish(random))
	case 7:
		in.seats = odd(random)
	case 8:
		in.turns, in.need = odd(random), odd(random)
	case 9:
		in.g = oddGuest(random)
	case 10:
		in.d = oddDish(random)
	case 11:
		in.p.Guests, in.l = make([]api.Guest, 100000), make([]api.Guest, 100000)
	case 12:
		in.p.Rules, in.bonds, in.dishes = make([]api.Rule, 100000), make([]api.Bond, 100000), make([]api.Dish, 100000)
	case 13:
		*numbers(&in.p.Guests[0])[random.IntN(4)] = odd(random)
	case 14:
		in.p.Guests = nil
	case 15:
		in.order = make([]int, 100000)
	}
}

// P1, R3, R5: no argument makes a function panic, and all is zero beside an error.
func TestAnyArguments(t *testing.T) {
	random := rand.New(rand.NewPCG(31, 8))
	done, refused, words := map[string]int{}, map[string]int{}, texts()
	for i := range 3000 {
		in := someInput(random)
		if i%3 > 0 {
			in.upset(random)
			in.text = words[i%len(words)]
		}
		for function, call := range in.calls() {
			e, zero := call()
			if e != api.OK && !zero {
				t.Fatal(function, in, e)
			}
			if e == api.OK {
				done[function]++
			} else {
				refused[function]++
			}
		}
	}
	// All are called with what is valid as well.
	if len(done) < 11 || len(refused) < 11 {
		t.Error(done, refused)
	}
}

// R4: a nil slice and an empty one are equal.
func TestNilAndEmptyAreEqual(t *testing.T) {
	for _, rules := range [][]api.Rule{nil, {}} {
		p := api.Party{Guests: plain(2), Rules: rules}
		broken, price := priceOf(t, p, []int{1, 0})
		if text := must[string](t)(seat.Write(p)); len(broken)+price > 0 || must[int](t)(seat.Count(p)) != 2 || text != "guest aa 0 0 0 0\nguest ab 0 0 0 0\n" {
			t.Error(broken, price, text)
		}
	}
	for _, p := range []api.Party{{}, {Guests: []api.Guest{}, Rules: []api.Rule{}}} {
		if e := seat.Check(p); e != api.ErrShort {
			t.Error(e)
		}
	}
	for _, order := range [][]int{nil, {}} {
		if _, _, e := seat.Price(partyP(), order); e != api.ErrForm {
			t.Error(e)
		}
	}
	for _, l := range [][]api.Guest{nil, {}} {
		for _, bonds := range [][]api.Bond{nil, {}} {
			list, honour, e := seat.Invite(l, bonds, 3)
			if len(list)+honour > 0 || e != api.OK {
				t.Error(list, honour, e)
			}
		}
		for _, dishes := range [][]api.Dish{nil, {}} {
			if _, _, e := seat.Menu(l, dishes, 1, 0); e != api.ErrMissing {
				t.Error(e)
			}
		}
		if menu, cost, e := seat.Menu(l, []api.Dish{{Cost: 4}}, 1, 1); !slices.Equal(menu, []int{0}) || cost != 4 || e != api.OK {
			t.Error(menu, cost, e)
		}
	}
}

// blot changes all that a list has, also what is behind its end.
func blot[T any](l []T, with T) {
	for i := range l[:cap(l)] {
		l[:cap(l)][i] = with
	}
}

// apart fails the test if a change of what a function returned changes what it returned, or returns, another time.
func apart[T comparable](t *testing.T, function string, call func() []T, with T) {
	t.Helper()
	first := call()
	kept := slices.Clone(first)
	second := call()
	blot(first, with)
	if !slices.Equal(second, kept) || !slices.Equal(call(), kept) || len(kept) == 0 {
		t.Error(function, kept, second)
	}
}

// R4: what is given is not changed, and what is returned is new each time, and shares nothing.
func TestArgumentsAndResultsAreApart(t *testing.T) {
	// What lies behind the ends of the lists must not be used, either.
	guests := append(partyP().Guests, api.Guest{Name: "dan", Honour: 9}, api.Guest{})
	rules := append(partyP().Rules, keep(api.RuleLast, 1, 0), api.Rule{})
	order := []int{0, 2, 1, 3, 9}
	bonds := []api.Bond{feud(0, 1), with(0, 1), {}}
	dishes := []api.Dish{{Cost: 7}, {Turn: 1, Cost: 5}, {Cost: 1}, {Turn: 9}}
	in := input{p: api.Party{Guests: guests[:3], Rules: rules[:3]}, order: order[:3], l: guests[:3], bonds: bonds[:1], dishes: dishes[:2], seats: 3, turns: 2, need: 2, text: textP}
	in.g, in.d = guests[0], dishes[0]
	wantGuests, wantRules, wantOrder, wantBonds, wantDishes := slices.Clone(guests), slices.Clone(rules), slices.Clone(order), slices.Clone(bonds), slices.Clone(dishes)
	intact := func() bool {
		return slices.Equal(guests, wantGuests) && slices.Equal(rules, wantRules) && slices.Equal(order, wantOrder) && slices.Equal(bonds, wantBonds) && slices.Equal(dishes, wantDishes)
	}
	for function, call := range in.calls() {
		if e, _ := call(); !intact() || e != api.OK && function != "Conflict" {
			t.Fatal(function, in, e)
		}
	}
	conflict := api.Party{Guests: guests[:3], Rules: rules[:4]}
	for function, call := range map[string]func() []int{
		"Price":    func() []int { l, _ := priceOf(t, in.p, in.order); return l },
		"Best":     func() []int { l, _, _ := seat.Best(in.p); return l },
		"Sure":     func() []int { return slices.Concat(must[[][]int](t)(seat.Sure(in.p))...) },
		"Conflict": func() []int { return must[[]int](t)(seat.Conflict(conflict)) },
		"Invite":   func() []int { l, _, _ := seat.Invite(in.l, in.bonds, in.seats); return l },
		"Menu":     func() []int { l, _, _ := seat.Menu(in.l, in.dishes, in.turns, in.need); return l },
	} {
		apart(t, function, call, 77)
	}
	for i := range 3 {
		apart(t, "Sure", func() []int { return must[[][]int](t)(seat.Sure(in.p))[i] }, 77)
	}
	// Neither do the lists of one result share anything.
	verdicts := must[[][]int](t)(seat.Sure(in.p))
	want := slices.Clone(verdicts[1])
	blot(verdicts[0], 77)
	blot(verdicts[2], 77)
	if !slices.Equal(verdicts[1], want) {
		t.Error(verdicts)
	}
	apart(t, "Read", func() []api.Guest { p, _, _ := seat.Read(textP); return p.Guests }, api.Guest{})
	apart(t, "Read", func() []api.Rule { p, _, _ := seat.Read(textP); return p.Rules }, api.Rule{})
	if !intact() {
		t.Error(in)
	}
}

// R4: the names of a party that is read are no parts of its text.
func TestNamesAreApartFromTheText(t *testing.T) {
	text := strings.Clone(textP)
	first := uintptr(unsafe.Pointer(unsafe.StringData(text)))
	p, _, e := seat.Read(text)
	if e != api.OK || len(p.Guests) != 3 {
		t.Fatal(p, e)
	}
	for _, g := range p.Guests {
		if at := uintptr(unsafe.Pointer(unsafe.StringData(g.Name))); first <= at && at < first+uintptr(len(text)) {
			t.Error(g)
		}
	}
}

// The same is returned each time.
func TestResultsAreTheSameEachTime(t *testing.T) {
	random := rand.New(rand.NewPCG(32, 8))
	for range 40 {
		in := someInput(random)
		order, price, e := seat.Best(in.p)
		rules, f := seat.Conflict(in.p)
		list, honour, _ := seat.Invite(in.l, in.bonds, in.seats)
		menu, cost, g := seat.Menu(in.l, in.dishes, in.turns, in.need)
		for range 3 {
			otherOrder, otherPrice, otherE := seat.Best(in.p)
			otherRules, otherF := seat.Conflict(in.p)
			otherList, otherHonour, _ := seat.Invite(in.l, in.bonds, in.seats)
			otherMenu, otherCost, otherG := seat.Menu(in.l, in.dishes, in.turns, in.need)
			if !slices.Equal(order, otherOrder) || price != otherPrice || e != otherE || !slices.Equal(rules, otherRules) || f != otherF || !slices.Equal(list, otherList) || honour != otherHonour || !slices.Equal(menu, otherMenu) || cost != otherCost || g != otherG {
				t.Fatal(in)
			}
		}
	}
}

// The greatest parties are looked at without an end that is too far off.
func TestTheGreatestParties(t *testing.T) {
	var l []api.Rule
	for i := range 12 {
		l = append(l, keep([]int{api.RuleBefore, api.RuleApart, api.RuleBeside}[i%3], i%7, (i*i+1)%7))
		if l[i].A == l[i].B {
			l[i].B = (l[i].A + 1) % 7
		}
	}
	p := party(7, l...)
	if _, e := seat.Conflict(p); e != api.OK || must[int](t)(seat.Count(p)) != 0 {
		t.Error(e)
	}
	for i := range l {
		p.Rules[i].Weight = 1000
	}
	if _, price, is := found(t, p); !is || price%1000 != 0 || price == 0 || must[int](t)(seat.Count(p)) != 5040 {
		t.Error(price, is)
	}
}
