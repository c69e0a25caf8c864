package house_test

import (
	"math/rand/v2"
	"reflect"
	"slices"
	"strconv"
	"strings"
	"testing"

	"aloeswood/api"
	"aloeswood/game"
	"aloeswood/house"
)

// gameOf returns the game with the woods a, b and c that has these deals, each one as in a row of a program.
func gameOf(deals ...string) api.Game {
	g, row, e := game.Read("wood a 1\nwood b 2\nwood c 3\n" + sheet(deals...))
	if e != api.OK {
		panic("no game: " + strconv.Itoa(row) + " " + strings.Join(deals, "; "))
	}
	return g
}

// houseH is the house H of the chapter.
func houseH() api.House {
	return api.House{
		Variants: []api.Variant{{Name: "moon", Grade: 2}, {Name: "deep", Grade: 4, Secret: true}},
		Members:  []api.Member{{Name: "ann", Teacher: -1, Grade: 6, Holds: 3}, {Name: "bob", Grade: 4, Holds: 1}, {Name: "cid", Grade: 2}},
		Game:     gameOf("trial 0", "trial 1", "mix 0 0 2", "mix 0 1 1", "mix 0 2 1", "pass 0 3"),
		Scoring:  api.Scoring{Packet: 1, Pair: 2, Whole: 10, New: 5, Loss: 1, Keys: []int{api.KeyPoints}},
		Rite:     api.Rite{Wide: 1, Deep: 1, People: []api.Person{{Role: api.RoleHost}}},
		Kettle:   api.Kettle{Water: 1, Warm: api.Span{Lo: 500, Hi: 500}, Room: 500, Sing: 400, Boil: 900},
		Numbers:  []int{0, 2, 1},
	}
}

// houseWith returns the house H with a change.
func houseWith(change func(h *api.House)) api.House {
	h := houseH()
	change(&h)
	return h
}

// among returns the house H with other members.
func among(members ...api.Member) api.House {
	return houseWith(func(h *api.House) { h.Members = members })
}

// head returns a member without a teacher, pupil one with a teacher.
func head(name string, grade, holds int) api.Member {
	return api.Member{Name: name, Teacher: -1, Grade: grade, Holds: holds}
}

func pupil(name string, teacher, grade, holds int) api.Member {
	return api.Member{Name: name, Teacher: teacher, Grade: grade, Holds: holds}
}

// wiping is a rite in which the host takes a bowl and a cloth, wipes the bowl, and lays both down; a guest watches.
func wiping(seen ...int) api.Rite {
	return api.Rite{
		Wide: 2, Deep: 1, People: []api.Person{{Role: api.RoleHost}, {Role: api.RoleGuest, Cell: 1}},
		Things: []api.Thing{{Want: api.StateClean}, {State: api.StateClean, Want: api.StateClean, Cloth: true}},
		Seen:   seen, Lapses: []int{api.LapseSkip, api.LapseHand, api.LapseLate},
		Acts: []api.Act{
			{Kind: api.ActTake}, {At: 1, Kind: api.ActTake, Hand: 1, Thing: 1}, {At: 2, Kind: api.ActWipe, Hand: 1},
			{At: 3, Kind: api.ActLay}, {At: 4, Kind: api.ActLay, Hand: 1},
		},
	}
}

// sheet returns a sheet of lines.
func sheet(lines ...string) string {
	var text strings.Builder
	for _, line := range lines {
		text.WriteString(line + "\n")
	}
	return text.String()
}

// linesOf returns the lines of a text each of which is ended by a line feed.
func linesOf(t *testing.T, text string) []string {
	t.Helper()
	if text == "" {
		return nil
	}
	if !strings.HasSuffix(text, "\n") {
		t.Fatalf("no line feed at the end: %q", text)
	}
	return strings.Split(strings.TrimSuffix(text, "\n"), "\n")
}

// must fails the test unless there was no error.
func must[T any](t *testing.T) func(v T, e api.Errno) T {
	return func(v T, e api.Errno) T {
		t.Helper()
		if e != api.OK {
			t.Fatal("unexpected", e)
		}
		return v
	}
}

// replies returns the replies to lines, kept the hall after them, told the rows of the report.
func replies(t *testing.T, h api.House, lines ...string) []string {
	t.Helper()
	return linesOf(t, must[string](t)(house.Run(h, sheet(lines...))))
}

func kept(t *testing.T, h api.House, lines ...string) api.Hall {
	t.Helper()
	return must[api.Hall](t)(house.Keep(h, sheet(lines...)))
}

func told(t *testing.T, h api.House, lines ...string) []string {
	t.Helper()
	return linesOf(t, must[string](t)(house.Report(h, sheet(lines...))))
}

// says fails the test unless the house says what is expected: each text is a line and its reply, separated by " | ".
func says(t *testing.T, h api.House, texts ...string) {
	t.Helper()
	var lines, want []string
	for _, text := range texts {
		line, reply, _ := strings.Cut(text, " | ")
		lines, want = append(lines, line), append(want, reply)
	}
	for i, reply := range replies(t, h, lines...) {
		if reply != want[i] {
			t.Errorf("%d. %q: %q, not %q", i, lines[i], reply, want[i])
		}
	}
}

// same tells whether two halls are equal, and so on; a nil slice and an empty one are equal.
func same(a, b api.Hall) bool {
	return a.Day == b.Day && slices.Equal(a.Members, b.Members) && slices.Equal(a.Guests, b.Guests) && slices.Equal(a.Course, b.Course) && sameTable(a.Table, b.Table) && slices.EqualFunc(a.Records, b.Records, sameRecord)
}

func sameTable(a, b api.Table) bool {
	return a.Packets == b.Packets && a.Passed == b.Passed && a.State == b.State && slices.EqualFunc(a.Answers, b.Answers, slices.Equal[[]int])
}

func sameRecord(a, b api.Record) bool {
	return a.Day == b.Day && slices.Equal(a.Guests, b.Guests) && slices.Equal(a.Points, b.Points) && slices.Equal(a.Places, b.Places)
}

// isZero tells whether a hall is the zero value.
func isZero(h api.Hall) bool { return same(h, api.Hall{}) }

// copied returns a house that is equal, and apart.
func copied(h api.House) api.House {
	h.Variants, h.Members, h.Numbers = slices.Clone(h.Variants), slices.Clone(h.Members), slices.Clone(h.Numbers)
	h.Game = api.Game{Woods: slices.Clone(h.Game.Woods), Deals: slices.Clone(h.Game.Deals)}
	h.Scoring.Keys = slices.Clone(h.Scoring.Keys)
	h.Rite.People, h.Rite.Things, h.Rite.Seen = slices.Clone(h.Rite.People), slices.Clone(h.Rite.Things), slices.Clone(h.Rite.Seen)
	h.Rite.Lapses, h.Rite.Acts = slices.Clone(h.Rite.Lapses), slices.Clone(h.Rite.Acts)
	h.Fire = api.Fire{Coals: slices.Clone(h.Fire.Coals), Touches: slices.Clone(h.Fire.Touches)}
	h.Pours = slices.Clone(h.Pours)
	return h
}

// sameHouse tells whether two houses are equal, one of which is copied.
func sameHouse(a, b api.House) bool { return reflect.DeepEqual(a, b) }

// name returns a name for a number; names are not in the order of the numbers.
func name(number int) string { return string([]byte{'z' - byte(number%7), 'a' + byte(number)}) }

// games returns some games: with one bag and several ones, with packets that are poured and set aside, and with censers that are placed.
func games() []api.Game {
	return []api.Game{
		houseH().Game,
		gameOf("place 1"),
		gameOf("mix 0 0 1", "mix 0 2 1", "pass 0 2"),
		gameOf("mix 1 2 2", "mix 0 1 2", "aside 0 1", "pour 1 0", "pass 0 2", "place 0"),
		gameOf("trial 2", "mix 3 0 2", "mix 1 1 2", "mix 2 2 2", "aside 3 1", "aside 1 1", "pour 3 2", "pour 1 3", "pass 2 2", "pass 3 1", "mix 3 0 1", "pass 3 1"),
		gameOf("mix 0 0 2", "pour 0 1", "mix 0 1 3", "pass 1 1", "pour 0 1", "aside 1 2", "pass 1 2"),
	}
}

// rites returns some rites: that are firm, that are not, that are not accepted, and with acts for some seasons and ranks alone.
func rites() []api.Rite {
	chosen, open := wiping(1), wiping()
	chosen.Acts[2].Seasons, chosen.Acts[4].Rank = 5, 3
	open.Acts = open.Acts[:4]
	skip := wiping(0)
	skip.Lapses = []int{api.LapseLate}
	some := wiping(0, 1)
	some.Acts[3].Seasons = 2
	return []api.Rite{houseH().Rite, wiping(1), wiping(0), chosen, open, skip, some}
}

// someSpan returns a span within another one.
func someSpan(random *rand.Rand, low, high int) api.Span {
	n := low + random.IntN(high-low+1)
	return api.Span{Lo: n, Hi: n + random.IntN(high-n+1)}
}

// someHearth gives a house a fire of at most so many coals, a kettle and pours.
func someHearth(random *rand.Rand, h *api.House, coals int) {
	h.Fire, h.Pours = api.Fire{}, nil
	for i := range random.IntN(coals + 1) {
		h.Fire.Coals = append(h.Fire.Coals, api.Coal{Catch: someSpan(random, 1, 4), Burn: someSpan(random, 2, 12), Heat: someSpan(random, 0, 40), Lit: random.IntN(2) == 0})
		if i > 0 {
			h.Fire.Touches = append(h.Fire.Touches, api.Touch{A: i, B: random.IntN(i)})
		}
	}
	h.Kettle = api.Kettle{Water: 3 + random.IntN(5), Warm: someSpan(random, 200, 300), Room: random.IntN(250), Gain: random.IntN(60), Lose: random.IntN(200000), Sing: 200 + random.IntN(200), Boil: 400 + random.IntN(601)}
	for minute := range random.IntN(3) {
		h.Pours = append(h.Pours, api.Pour{Minute: 2 * minute, Ladles: 1 - 2*random.IntN(2), Warm: random.IntN(500)})
	}
}

// someMembers gives a house so many members, of whom some are heads, and who hold variants as they may.
func someMembers(random *rand.Rand, h *api.House, members int) {
	h.Members = nil
	for number := range members {
		m := head(name(number), 2+random.IntN(api.MaxGrade-1), 0)
		if number > 0 && random.IntN(4) > 0 {
			m.Teacher = random.IntN(number)
			m.Grade = random.IntN(h.Members[m.Teacher].Grade + 1)
		}
		for variant := range h.Variants {
			with := m
			with.Holds |= 1 << variant
			valid := copied(*h)
			if valid.Members = append(valid.Members, with); random.IntN(3) > 0 && house.Check(valid) == api.OK {
				m = with
			}
		}
		h.Members = append(h.Members, m)
	}
}

// someHouse returns a house that is valid, in which many things are small, or equal.
func someHouse(random *rand.Rand) api.House {
	h := houseH()
	h.Variants = nil
	for i := range random.IntN(5) {
		h.Variants = append(h.Variants, api.Variant{Name: name(20 - i), Grade: random.IntN(7), Secret: random.IntN(2) == 0})
	}
	h.Game = games()[random.IntN(len(games()))]
	h.Scoring = api.Scoring{Packet: random.IntN(3), Pair: random.IntN(3), Whole: random.IntN(9), New: random.IntN(4), Loss: random.IntN(4)}
	for _, key := range random.Perm(api.MaxKeys)[:random.IntN(4)] {
		h.Scoring.Keys = append(h.Scoring.Keys, key+1)
	}
	h.Rite = rites()[random.IntN(len(rites()))]
	someHearth(random, &h, 3)
	h.Numbers = nil
	for range 1 + random.IntN(12) {
		h.Numbers = append(h.Numbers, []int{random.IntN(5), random.IntN(100), random.IntN(api.Mil + 1)}[random.IntN(3)])
	}
	members := 1 + random.IntN(6)
	if random.IntN(5) == 0 {
		members = api.MaxMembers - random.IntN(3)
	}
	someMembers(random, &h, members)
	return h
}

// play is a house, and lines that it is given.
type play struct {
	h     api.House
	lines []string
}

// plays returns so many houses that are valid, each with so many lines, most of which it does.
func plays(seed uint64, times, lines int) []play {
	random := rand.New(rand.NewPCG(seed, 10))
	var l []play
	for range times {
		p := play{h: someHouse(random)}
		j := judgeOf(p.h)
		for range lines {
			line := j.someLine(random)
			p.lines = append(p.lines, line)
			j.reply(line)
		}
		l = append(l, p)
	}
	return l
}
