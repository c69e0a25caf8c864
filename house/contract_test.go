package house_test

import (
	"math"
	"slices"
	"strconv"
	"strings"
	"testing"

	"aloeswood/api"
	"aloeswood/house"
)

// The chapter's examples.
func TestExamples(t *testing.T) {
	h := houseH()
	says(t, h, "line bob | bob ann", "hold moon | ann bob", "hold deep | ann")
	says(t, h, "show bob deep | ok", "show cid deep | error 6", "raise cid | ok", "raise cid | ok", "show cid deep | error 8", "hold deep | ann bob")
	says(t, h, "join dan bob | ok", "join dan ann | error 9", "line dan | dan bob ann", "split bob | error 6", "raise bob | ok", "split bob | ok", "line dan | dan bob")
	says(t, h, "gather cid ann bob | seats ann bob cid", "pass | ok", "write cid 0 5 | ok", "pause | ok", "pass | error 10", "resume | ok", "pass | ok", "pass | ok", "close | ok", "open | points ann 0 2 bob 0 2 cid 6 1")
	says(t, h, "gather eve | error 7", "pass | error 10", "gather ann ann | error 9", "day 5 | ok", "day 4 | error 2", "fuel | error 3")
	says(t, h, "sing 5 | sure", "rite 3 | firm", "rite 10 | error 2")
	if rows := told(t, h, "day 5"); !slices.Equal(rows, []string{"day 5", "member ann - 6 moon deep", "member bob ann 4 moon", "member cid ann 2", "end"}) {
		t.Error(rows)
	}
}

// P10.1

// bad is a house that is not valid, and its first error.
type bad struct {
	h api.House
	e api.Errno
}

// badOf returns the house H with changes, which then has an error.
func badOf(e api.Errno, changes ...func(h *api.House)) bad {
	h := houseH()
	for _, change := range changes {
		change(&h)
	}
	return bad{h, e}
}

// badNames are words that are no names.
func badNames() []string {
	return []string{"", " ", "Moon", "moOn", "moon ", " moon", "mo on", "moon1", "0", "-", "mo-on", "abcdefghi", "möön", "`", "{", "a{", "`a", "\n", "a\n", "\x00", "\xff", strings.Repeat("a", 1000)}
}

// badVariants are houses whose variants are not valid.
func badVariants() map[string]bad {
	variant := func(number int, change func(v *api.Variant)) func(h *api.House) {
		return func(h *api.House) { change(&h.Variants[number]) }
	}
	l := map[string]bad{
		"nine":                           badOf(api.ErrFull, func(h *api.House) { h.Variants = append(eight(), api.Variant{Name: "i"}) }),
		"nine that are not valid":        badOf(api.ErrFull, func(h *api.House) { h.Variants = make([]api.Variant, 9) }),
		"very many":                      badOf(api.ErrFull, func(h *api.House) { h.Variants = make([]api.Variant, 1000000) }),
		"the name before the grade":      badOf(api.ErrForm, variant(0, func(v *api.Variant) { v.Name, v.Grade = "", 10 })),
		"the same name":                  badOf(api.ErrExists, variant(1, func(v *api.Variant) { v.Name = "moon" })),
		"the same name before the grade": badOf(api.ErrExists, variant(1, func(v *api.Variant) { v.Name, v.Grade = "moon", 10 })),
		"the same name, not beside":      badOf(api.ErrExists, func(h *api.House) { h.Variants = append(h.Variants, api.Variant{Name: "moon"}) }),
		"the first one before the next":  badOf(api.ErrRange, func(h *api.House) { h.Variants[0].Grade, h.Variants[1].Name = 10, "" }),
		"before no members":              badOf(api.ErrRange, func(h *api.House) { h.Variants[1].Grade, h.Members = -1, nil }),
		"before too many members":        badOf(api.ErrForm, func(h *api.House) { h.Variants[1].Name, h.Members = "A", make([]api.Member, 21) }),
	}
	for i, word := range badNames() {
		for number := range 2 {
			l["the name "+strconv.Itoa(i)+" of "+strconv.Itoa(number)] = badOf(api.ErrForm, variant(number, func(v *api.Variant) { v.Name = word }))
		}
	}
	for _, grade := range []int{-1, 10, math.MinInt, math.MaxInt} {
		for number := range 2 {
			l["the grade "+strconv.Itoa(grade)+" of "+strconv.Itoa(number)] = badOf(api.ErrRange, variant(number, func(v *api.Variant) { v.Grade = grade }))
		}
	}
	return l
}

// eight returns as many variants as there may be.
func eight() []api.Variant {
	var l []api.Variant
	for i := range api.MaxVariants {
		l = append(l, api.Variant{Name: string(rune('a' + i)), Grade: i, Secret: i%2 == 1})
	}
	return l
}

// badMembers are houses whose members are not valid.
func badMembers() map[string]bad {
	of := func(e api.Errno, members ...api.Member) bad { return bad{among(members...), e} }
	ann, bob := head("ann", 6, 3), pupil("bob", 0, 4, 1)
	l := map[string]bad{
		"none":                                   of(api.ErrShort),
		"21":                                     of(api.ErrFull, append(twenty(), head("zoe", 0, 0))...),
		"21 that are not valid":                  of(api.ErrFull, make([]api.Member, 21)...),
		"very many":                              of(api.ErrFull, make([]api.Member, 1000000)...),
		"the name before the teacher":            of(api.ErrForm, pupil("", 0, 10, 4)),
		"the same name":                          of(api.ErrExists, ann, pupil("ann", 0, 2, 0)),
		"the same name before the teacher":       of(api.ErrExists, ann, bob, pupil("ann", 5, 2, 0)),
		"the first one is its own teacher":       of(api.ErrMissing, pupil("ann", 0, 6, 0)),
		"its own teacher":                        of(api.ErrMissing, ann, pupil("bob", 1, 4, 0)),
		"a teacher behind it":                    of(api.ErrMissing, ann, pupil("bob", 2, 4, 0), pupil("cid", 0, 4, 0)),
		"the teacher before the grade":           of(api.ErrMissing, ann, pupil("bob", -2, 10, 4)),
		"the grade before that of the teacher":   of(api.ErrRange, ann, pupil("bob", 0, 10, 0)),
		"the grade before what it holds":         of(api.ErrRange, head("ann", 10, 4)),
		"above the teacher":                      of(api.ErrClash, ann, pupil("bob", 0, 7, 0)),
		"above a teacher who is a pupil":         of(api.ErrClash, ann, bob, pupil("cid", 1, 5, 0)),
		"above the teacher before what it holds": of(api.ErrClash, ann, pupil("bob", 0, 7, 4)),
		"what it holds before its grade":         of(api.ErrRange, head("ann", 0, 7)),
		"too low a grade":                        of(api.ErrShort, head("ann", 1, 1)),
		"too low a grade for the second one":     of(api.ErrShort, head("ann", 3, 3)),
		"too low a grade before the teacher":     of(api.ErrShort, head("ann", 6, 0), pupil("bob", 0, 1, 1)),
		"too low a grade before a secret":        of(api.ErrShort, ann, pupil("bob", 0, 4, 2), pupil("cid", 0, 3, 2)),
		"the teacher does not hold it":           of(api.ErrClash, head("ann", 6, 2), bob),
		"the teacher holds another one":          of(api.ErrClash, ann, bob, pupil("cid", 1, 4, 2)),
		"the first one before the second one":    of(api.ErrClash, head("ann", 6, 2), pupil("bob", 0, 3, 3)),
		"the second one behind the first one":    of(api.ErrShort, ann, pupil("bob", 0, 3, 3)),
		"the teacher before a secret":            of(api.ErrClash, head("ann", 6, 0), pupil("bob", 0, 4, 2)),
		"a secret for two pupils":                of(api.ErrExists, ann, pupil("bob", 0, 4, 2), pupil("cid", 0, 4, 2)),
		"a secret for two pupils, not beside":    of(api.ErrExists, ann, pupil("bob", 0, 4, 3), pupil("cid", 0, 4, 1), pupil("dan", 0, 6, 3)),
		"a member before the next one":           of(api.ErrShort, head("ann", 1, 1), head("", 0, 0)),
		"before the game": badOf(api.ErrRange, func(h *api.House) {
			h.Members[2].Holds, h.Game = -1, api.Game{}
		}),
	}
	for i, word := range badNames() {
		l["the name "+strconv.Itoa(i)] = of(api.ErrForm, head(word, 6, 0))
		l["the name "+strconv.Itoa(i)+" of the last one"] = of(api.ErrForm, ann, bob, pupil(word, 0, 2, 0))
	}
	for _, n := range []int{-1, 4, 5, 7, 8, 256, math.MinInt, math.MaxInt} {
		l["it holds "+strconv.Itoa(n)] = of(api.ErrRange, head("ann", 9, n))
	}
	for _, n := range []int{-2, 3, 20, math.MinInt, math.MaxInt} {
		l["the teacher "+strconv.Itoa(n)] = of(api.ErrMissing, ann, bob, pupil("cid", 0, 2, 0), pupil("dan", n, 2, 0))
	}
	for _, n := range []int{-1, 10, math.MinInt, math.MaxInt} {
		l["the grade "+strconv.Itoa(n)] = of(api.ErrRange, head("ann", n, 0))
		l["the grade "+strconv.Itoa(n)+" of a pupil"] = of(api.ErrRange, ann, pupil("bob", 0, n, 0))
	}
	return l
}

// twenty returns as many members as there may be, none of whom is a pupil.
func twenty() []api.Member {
	var l []api.Member
	for number := range api.MaxMembers {
		l = append(l, head(name(number), 3, 0))
	}
	return l
}

// badParts are houses of which the game, the scoring, the rite, the fire, the kettle, the pours or the numbers are not valid.
func badParts() map[string]bad {
	noGame := func(h *api.House) { h.Game = api.Game{} }
	noScoring := func(h *api.House) { h.Scoring.Keys = []int{7} }
	noRite := func(h *api.House) { h.Rite.Wide = 0 }
	noFire := func(h *api.House) { h.Fire.Touches = []api.Touch{{}} }
	noKettle := func(h *api.House) { h.Kettle.Sing = 901 }
	noPours := func(h *api.House) { h.Pours = make([]api.Pour, 21) }
	noNumbers := func(h *api.House) { h.Numbers = nil }
	of := func(e api.Errno, change func(h *api.House)) bad { return badOf(e, change) }
	l := map[string]bad{
		"no game":                     badOf(api.ErrShort, noGame, noScoring, noRite, noFire, noKettle, noPours, noNumbers),
		"a game without censers":      of(api.ErrShort, func(h *api.House) { h.Game.Deals = h.Game.Deals[:4] }),
		"a game with too many":        of(api.ErrShort, func(h *api.House) { h.Game.Deals[5].Count = 5 }),
		"no scoring":                  badOf(api.ErrKind, noScoring, noRite, noFire, noKettle, noPours, noNumbers),
		"a scoring with too much":     of(api.ErrRange, func(h *api.House) { h.Scoring.Loss = 1001 }),
		"no rite":                     badOf(api.ErrRange, noRite, noFire, noKettle, noPours, noNumbers),
		"a rite without people":       of(api.ErrShort, func(h *api.House) { h.Rite.People = nil }),
		"no fire":                     badOf(api.ErrMissing, noFire, noKettle, noPours, noNumbers),
		"a fire with a bad coal":      of(api.ErrRange, func(h *api.House) { h.Fire.Coals = make([]api.Coal, 1) }),
		"no kettle":                   badOf(api.ErrOrder, noKettle, noPours, noNumbers),
		"a kettle without water":      of(api.ErrRange, func(h *api.House) { h.Kettle.Water = 0 }),
		"no pours":                    badOf(api.ErrFull, noPours, noNumbers),
		"pours of too much":           of(api.ErrOver, func(h *api.House) { h.Pours = []api.Pour{{Ladles: 50}} }),
		"no numbers":                  of(api.ErrShort, noNumbers),
		"41 numbers":                  of(api.ErrFull, func(h *api.House) { h.Numbers = make([]int, 41) }),
		"41 numbers before their own": of(api.ErrFull, func(h *api.House) { h.Numbers = slices.Repeat([]int{-1}, 41) }),
		"very many numbers":           of(api.ErrFull, func(h *api.House) { h.Numbers = make([]int, 1000000) }),
	}
	for _, n := range []int{-1, 1000001, math.MinInt, math.MaxInt} {
		for i := range 3 {
			l["the number "+strconv.Itoa(n)+" at "+strconv.Itoa(i)] = of(api.ErrRange, func(h *api.House) { h.Numbers[i] = n })
		}
	}
	return l
}

// refused fails the test unless all functions return this error of a house, and nothing else, whatever the sheet is.
func refused(t *testing.T, name string, h api.House, want api.Errno) {
	t.Helper()
	if e := house.Check(h); e != want {
		t.Error(name, e, want)
	}
	for _, text := range []string{"", "\n", "day 1\n", "day 1", strings.Repeat("x", 9000), strings.Repeat("\n", 200)} {
		said, a := house.Run(h, text)
		hall, b := house.Keep(h, text)
		rows, d := house.Report(h, text)
		if a != want || b != want || d != want || said != "" || !isZero(hall) || rows != "" {
			t.Error(name, a, b, d, want, said, hall, rows)
		}
	}
}

func TestHousesThatAreNotValid(t *testing.T) {
	for kind, l := range map[string]map[string]bad{"variants": badVariants(), "members": badMembers(), "parts": badParts()} {
		for name, b := range l {
			refused(t, kind+": "+name, b.h, b.e)
		}
	}
}

func TestHousesThatAreValid(t *testing.T) {
	l := map[string]api.House{
		"H":           houseH(),
		"no variants": houseWith(func(h *api.House) { h.Variants, h.Members = nil, []api.Member{head("a", 0, 0)} }),
		"eight variants": houseWith(func(h *api.House) {
			h.Variants, h.Members = eight(), []api.Member{head("a", 9, 255), pupil("b", 0, 7, 255), pupil("c", 0, 9, 85), pupil("d", 1, 7, 255)}
		}),
		"the names of variants are those of members": houseWith(func(h *api.House) { h.Variants[0].Name, h.Variants[1].Name = "ann", "bob" }),
		"the greatest grade of a variant":            houseWith(func(h *api.House) { h.Variants = append(h.Variants, api.Variant{Name: "abcdefgh", Grade: 9}) }),
		"twenty members":                             among(twenty()...),
		"a chain of twenty": houseWith(func(h *api.House) {
			h.Members = twenty()
			for i := range h.Members {
				h.Members[i].Teacher, h.Members[i].Grade, h.Members[i].Holds = i-1, 9, 3
			}
		}),
		"the greatest grade":                   among(head("zzzzzzzz", 9, 3), pupil("a", 0, 9, 0)),
		"as high as the teacher":               among(head("ann", 6, 3), pupil("bob", 0, 6, 3)),
		"the least grade for what it holds":    among(head("ann", 4, 3), pupil("bob", 0, 2, 1), pupil("cid", 0, 2, 1)),
		"a secret, teacher by teacher":         among(head("ann", 4, 2), pupil("bob", 0, 4, 2), pupil("cid", 1, 4, 2), pupil("dan", 2, 4, 2), pupil("eve", 0, 4, 0)),
		"a secret, head by head":               among(head("ann", 4, 2), head("bob", 4, 2), head("cid", 4, 2), pupil("dan", 1, 4, 2), pupil("eve", 2, 4, 2)),
		"a head behind others":                 among(head("ann", 4, 2), pupil("bob", 0, 3, 0), head("cid", 9, 3), pupil("dan", 2, 9, 3)),
		"a rite that is not accepted":          houseWith(func(h *api.House) { h.Rite = wiping(); h.Rite.Acts = h.Rite.Acts[:1] }),
		"one number":                           houseWith(func(h *api.House) { h.Numbers = []int{0} }),
		"forty numbers, up to a million":       houseWith(func(h *api.House) { h.Numbers = slices.Repeat([]int{1000000, 0}, 20) }),
		"a game with more courses than listed": houseWith(func(h *api.House) { h.Game = manyCourses() }),
	}
	for name, h := range l {
		if e := house.Check(h); e != api.OK {
			t.Error(name, e)
		}
		if hall := kept(t, h); hall.Day != 0 || !slices.Equal(hall.Members, h.Members) || len(hall.Guests)+len(hall.Course)+len(hall.Records) > 0 || !sameTable(hall.Table, api.Table{}) {
			t.Error(name, hall)
		}
	}
}

// manyCourses returns a game that may take more courses than game lists.
func manyCourses() api.Game {
	return gameOf("mix 0 0 3", "mix 0 1 3", "mix 0 2 3", "mix 1 0 1", "mix 1 1 1", "mix 1 2 1", "pour 1 0", "pass 0 9")
}

func TestSheets(t *testing.T) {
	const lines, bytes = api.MaxLines, api.MaxPaper
	for name, c := range map[string]struct {
		sheet string
		e     api.Errno
	}{
		"no lines":                          {"", api.OK},
		"one line":                          {"\n", api.OK},
		"two lines":                         {"day 1\nday 2\n", api.OK},
		"no line feed":                      {"x", api.ErrForm},
		"no line feed behind the last line": {"day 1\nday 2", api.ErrForm},
		"a blank behind the last line":      {"day 1\n ", api.ErrForm},
		"a carriage return":                 {"day 1\r", api.ErrForm},
		"a hundred lines":                   {strings.Repeat("x\n", lines), api.OK},
		"a hundred lines of no bytes":       {strings.Repeat("\n", lines), api.OK},
		"a hundred and one":                 {strings.Repeat("\n", lines+1), api.ErrFull},
		"a hundred and a half":              {strings.Repeat("\n", lines) + "x", api.ErrForm},
		"no line feed before too many":      {strings.Repeat("\n", lines+1) + "x", api.ErrForm},
		"as long as may be":                 {strings.Repeat("x", bytes-1) + "\n", api.OK},
		"as long, without a line feed":      {strings.Repeat("x", bytes), api.ErrForm},
		"as long, with too many lines":      {strings.Repeat("\n", bytes), api.ErrFull},
		"too long":                          {strings.Repeat("x", bytes) + "\n", api.ErrLong},
		"too long, without a line feed":     {strings.Repeat("x", bytes+1), api.ErrLong},
		"too long, with too many lines":     {strings.Repeat("\n", bytes+1), api.ErrLong},
		"very long":                         {strings.Repeat("gather ann bob\n", 1000000), api.ErrLong},
	} {
		h := houseH()
		said, a := house.Run(h, c.sheet)
		hall, b := house.Keep(h, c.sheet)
		rows, d := house.Report(h, c.sheet)
		if a != c.e || b != c.e || d != c.e {
			t.Error(name, a, b, d)
		}
		if c.e != api.OK && (said != "" || !isZero(hall) || rows != "") {
			t.Error(name, said, hall, rows)
		}
		if c.e == api.OK && (strings.Count(said, "\n") != strings.Count(c.sheet, "\n") || len(hall.Members) != 3 || !strings.HasSuffix(rows, "end\n")) {
			t.Error(name, said, hall, rows)
		}
	}
}

// wordsOf are for each kind of lines the words behind the first one, as they may be in the house H.
func wordsOf() map[string][]string {
	return map[string][]string{
		"day": {"7"}, "join": {"eve", "ann"}, "raise": {"cid"}, "show": {"bob", "deep"}, "split": {"bob"}, "line": {"bob"}, "hold": {"moon"}, "gather": {"ann"},
		"pass": nil, "pause": nil, "resume": nil, "close": nil, "write": {"ann", "0", "5"}, "open": nil, "sing": {"5"}, "rite": {"3"},
	}
}

// A line that is not as said is refused with ErrForm, first of all.
func TestLinesThatAreNotAsSaid(t *testing.T) {
	lines := []string{"", " ", "  ", "x", "fuel", "-", "0", "5", "error", "none", "ok", "seats", "points", "end", "member", "game", "\t", "\r", "\x00", "\xff", strings.Repeat("x", 500)}
	for kind, words := range wordsOf() {
		line := strings.Join(append([]string{kind}, words...), " ")
		if reply := replies(t, houseH(), line)[0]; reply == "error 3" {
			t.Error(line, reply)
		}
		lines = append(lines, " "+line, line+" ", "\t"+line, line[1:], line[:len(kind)-1]+line[len(kind):], "x"+line, strings.ToUpper(line), strings.ToUpper(line[:1])+line[1:], strings.Replace(line, " ", "\t", 1)+"\t")
		if kind == "gather" {
			lines = append(lines, kind, "gather ann bob cid ann bob cid", "gather a b c d e f", "gather a b c d e f g", "gather ann  bob", "gather "+strings.Repeat("ann ", 1000))
			continue
		}
		lines = append(lines, line+" x", line+" 0", line+" x y", line+" "+strings.Join(words, " ")+" "+line)
		for i := range words {
			fewer := slices.Delete(slices.Clone(words), i, i+1)
			lines = append(lines, strings.Join(append([]string{kind}, fewer...), " "), strings.Join(append([]string{kind}, slices.Insert(fewer, i, "")...), " "))
			if !strings.Contains("0 3 5 7", words[i]) {
				continue
			}
			for _, word := range []string{"x", "+1", "-1", "--", "01", "00", "000001", "1000000", "9999999", "1.0", "1e3", "0x1", "１", "1,", "1_0", "five", "99999999999999999999", "18446744073709551616"} {
				lines = append(lines, strings.Join(append([]string{kind}, slices.Replace(slices.Clone(words), i, i+1, word)...), " "))
			}
			if kind != "write" || i != 2 {
				lines = append(lines, strings.Join(append([]string{kind}, slices.Replace(slices.Clone(words), i, i+1, "-")...), " "))
			}
		}
	}
	before := kept(t, houseH())
	for _, line := range lines {
		for _, first := range [][]string{nil, {"gather ann", "pass"}} {
			h := houseH()
			said := replies(t, h, append(slices.Clone(first), line)...)
			if said[len(first)] != "error 3" {
				t.Errorf("%q: %q", line, said)
			}
		}
		if hall := kept(t, houseH(), line); !same(hall, before) {
			t.Errorf("%q: %v", line, hall)
		}
	}
}

// What a line names is looked at only if the line is as said: each kind with a word that names nobody, and a word too few or too many.
func TestFormComesFirst(t *testing.T) {
	says(t, houseH(), "raise | error 3", "raise zoe x | error 3", "show zoe | error 3", "show zoe sun x | error 3", "split zoe x | error 3", "line zoe x | error 3", "hold sun x | error 3", "join zoe | error 3", "join Zoe zoe x | error 3",
		"write zoe 0 | error 3", "write zoe x 0 | error 3", "write zoe 0 x | error 3", "write zoe - 0 | error 3", "gather ann | seats ann", "day x | error 3", "gather | error 3", "gather a b c d e f | error 3", "write bob 00 0 | error 3", "pass x | error 3", "rite x | error 3", "sing x | error 3")
}

func TestDay(t *testing.T) {
	says(t, houseH(), "day 0 | ok", "day 0 | ok", "day 1 | ok", "day 0 | error 2", "day 1 | ok", "day 999 | ok", "day 998 | error 2", "day 1001 | error 2", "day 999999 | error 2", "day 1000 | ok", "day 1000 | ok", "day 999 | error 2", "day 1001 | error 2")
	// ErrState comes before ErrRange.
	says(t, houseH(), "day 5 | ok", "gather ann | seats ann", "day 5 | error 10", "day 6 | error 10", "day 4 | error 10", "day 1001 | error 10")
	for _, day := range []int{0, 1, 89, 90, 999, 1000} {
		if hall := kept(t, houseH(), "day "+strconv.Itoa(day)); hall.Day != day {
			t.Error(day, hall)
		}
	}
	if hall := kept(t, houseH(), "day 7", "day 6", "gather bob", "day 8"); hall.Day != 7 {
		t.Error(hall)
	}
}

func TestJoin(t *testing.T) {
	// The errors come in this order: ErrMissing, ErrForm, ErrExists, ErrShort, ErrFull.
	says(t, houseH(), "join Eve zoe | error 7", "join ann zoe | error 7", "join Eve cid | error 3", "join abcdefghi ann | error 3", "join eve1 ann | error 3", "join - ann | error 3", "join 5 ann | error 3", "join ann cid | error 9", "join cid cid | error 9", "join eve cid | error 6", "join eve ann | ok", "join eve ann | error 9", "join eve bob | error 9", "join eve eve | error 9", "join dan eve | error 6", "line eve | eve ann")
	says(t, houseH(), "raise cid | ok", "join a cid | ok", "join abcdefgh cid | ok", "line abcdefgh | abcdefgh cid ann", "hold moon | ann bob")
	// A name may be that of a variant, or any other word of small letters.
	says(t, houseH(), "join moon ann | ok", "join none ann | ok", "join gather moon | error 6", "join join bob | ok", "line join | join bob ann", "raise moon | ok", "show moon moon | error 6")
	hall := kept(t, houseH(), "join eve bob", "join fay ann")
	want := append(houseH().Members, pupil("eve", 1, 0, 0), pupil("fay", 0, 0, 0))
	if !slices.Equal(hall.Members, want) {
		t.Error(hall)
	}
	// There is a place for the twentieth one, and for no other one.
	h := houseWith(func(h *api.House) { h.Members = twenty()[:19] })
	teacher := h.Members[0].Name
	full := []string{"join eve " + teacher + " | ok", "join fay " + teacher + " | error 8", "join fay eve | error 6", "join eve " + teacher + " | error 9", "join fay zoe | error 7", "join Fay " + teacher + " | error 3", "line eve | eve " + teacher}
	says(t, h, full...)
	if hall := kept(t, h, "join eve "+teacher, "join fay "+teacher); len(hall.Members) != 20 || hall.Members[19] != pupil("eve", 0, 0, 0) {
		t.Error(hall)
	}
	says(t, among(twenty()...), "join eve "+teacher+" | error 8")
	// The grade of who teaches: one that is just enough, and one that is just not.
	says(t, among(head("ann", 3, 0), head("bob", 2, 0)), "join eve ann | ok", "join fay bob | error 6")
}

func TestRaise(t *testing.T) {
	says(t, houseH(), "raise zoe | error 7", "raise moon | error 7", "raise ann | error 10", "raise bob | ok", "raise bob | ok", "raise bob | error 12", "raise cid | ok", "raise cid | ok", "raise cid | ok", "raise cid | ok", "raise cid | error 12")
	if hall := kept(t, houseH(), "raise bob", "raise ann", "raise bob", "raise bob", "raise cid"); !slices.Equal(hall.Members, []api.Member{head("ann", 6, 3), pupil("bob", 0, 6, 1), pupil("cid", 0, 3, 0)}) {
		t.Error(hall)
	}
	// Not above one's own teacher, who may be raised, too.
	says(t, among(head("ann", 9, 0), pupil("bob", 0, 8, 0), pupil("cid", 1, 8, 0)), "raise cid | error 12", "raise bob | ok", "raise bob | error 12", "raise cid | ok", "raise cid | error 12")
	// Nor is one raised by a teacher who is none any more, whoever has a greater grade.
	says(t, among(head("ann", 9, 0), pupil("bob", 0, 5, 0), pupil("cid", 1, 5, 0)), "split bob | ok", "raise bob | error 10", "raise cid | error 12")
}

func TestShow(t *testing.T) {
	// The errors come in this order: ErrMissing, ErrState, ErrClash, ErrShort, ErrExists, ErrFull.
	says(t, houseH(), "show zoe moon | error 7", "show bob sun | error 7", "show zoe sun | error 7", "show ann sun | error 7", "show moon bob | error 7", "show ann moon | error 10", "show bob moon | error 9", "show cid moon | ok", "show cid moon | error 9", "show cid deep | error 6", "show bob deep | ok", "show bob deep | error 9", "raise cid | ok", "show cid deep | error 6", "raise cid | ok", "show cid deep | error 8", "hold moon | ann bob cid", "hold deep | ann bob")
	for _, c := range []struct {
		members []api.Member
		reply   string
	}{
		{[]api.Member{head("ann", 6, 0), pupil("bob", 0, 1, 0)}, "error 12"},                        // the teacher does not hold it, and the grade is too low
		{[]api.Member{head("ann", 6, 2), pupil("bob", 0, 4, 0)}, "error 12"},                        // the teacher holds another one
		{[]api.Member{head("ann", 6, 1), pupil("bob", 0, 1, 0)}, "error 6"},                         // the grade is too low
		{[]api.Member{head("ann", 6, 1), pupil("bob", 0, 2, 0)}, "ok"},                              // it is just enough
		{[]api.Member{head("ann", 6, 1), pupil("bob", 0, 2, 1)}, "error 9"},                         // it holds it
		{[]api.Member{head("ann", 6, 1), pupil("bob", 0, 2, 0), pupil("cid", 0, 2, 1)}, "ok"},       // so does another pupil
		{[]api.Member{head("zoe", 6, 1), head("ann", 6, 0), pupil("bob", 1, 2, 0)}, "error 12"},     // another one than its teacher holds it
		{[]api.Member{head("zoe", 6, 1), pupil("ann", 0, 6, 0), pupil("bob", 1, 2, 0)}, "error 12"}, // only the teacher of its teacher holds it
		{[]api.Member{head("zoe", 6, 1), pupil("ann", 0, 6, 1), pupil("bob", 1, 2, 0)}, "ok"},       // both hold it
		{[]api.Member{head("ann", 6, 1), head("eve", 0, 0), head("bob", 2, 0)}, "error 10"},         // it has no teacher
		{[]api.Member{head("ann", 6, 1), pupil("eve", 0, 0, 0), pupil("bob", 1, 0, 0)}, "error 12"}, // its teacher has a low grade, too
	} {
		says(t, among(c.members...), "show bob moon | "+c.reply)
	}
	// A secret one is shown to one pupil of each teacher, wherever it stands among the members.
	ann, bob := head("ann", 6, 2), pupil("bob", 0, 4, 0)
	for _, c := range []struct {
		members []api.Member
		reply   string
	}{
		{[]api.Member{ann, bob}, "ok"},
		{[]api.Member{ann, pupil("bob", 0, 4, 2)}, "error 9"},
		{[]api.Member{ann, bob, pupil("cid", 0, 4, 2)}, "error 8"},
		{[]api.Member{ann, pupil("bob", 0, 3, 0), pupil("cid", 0, 4, 2)}, "error 6"},
		{[]api.Member{ann, pupil("cid", 0, 4, 2), bob}, "error 8"},
		{[]api.Member{ann, bob, pupil("cid", 0, 4, 0), pupil("dan", 0, 4, 0), pupil("eve", 0, 6, 2)}, "error 8"},
		{[]api.Member{ann, bob, pupil("cid", 1, 4, 0)}, "ok"},
		{[]api.Member{ann, bob, head("cid", 4, 2), pupil("dan", 2, 4, 2)}, "ok"},
		{[]api.Member{head("cid", 4, 2), pupil("ann", 0, 4, 2), pupil("bob", 1, 4, 0)}, "ok"},
	} {
		says(t, among(c.members...), "show bob deep | "+c.reply)
	}
	// Whoever splits is no pupil any more, so there may be another one.
	says(t, houseH(), "show bob deep | ok", "raise cid | ok", "raise cid | ok", "show cid deep | error 8", "raise bob | ok", "split bob | ok", "show cid deep | ok", "hold deep | ann bob cid", "show bob moon | error 10")
	// The last one of eight variants is shown as the first one is.
	h := houseWith(func(h *api.House) {
		h.Variants, h.Members = eight(), []api.Member{head("ann", 9, 255), pupil("bob", 0, 7, 0)}
	})
	says(t, h, "show bob h | ok", "show bob a | ok", "hold h | ann bob", "hold b | ann", "show bob h | error 9")
	if hall := kept(t, h, "show bob h", "show bob a", "show bob i", "show bob e"); hall.Members[1].Holds != 128+1+16 {
		t.Error(hall)
	}
}

func TestSplit(t *testing.T) {
	says(t, houseH(), "split zoe | error 7", "split ann | error 10", "split bob | error 6", "split cid | error 6", "raise bob | ok", "split bob | ok", "split bob | error 10", "line bob | bob", "line cid | cid ann")
	// The teacher counts before the grade.
	says(t, among(head("ann", 4, 0), pupil("bob", 0, 4, 0)), "split ann | error 10", "split bob | error 6")
	// Pupils go with their teacher.
	says(t, among(head("ann", 6, 0), pupil("bob", 0, 5, 0), pupil("cid", 1, 5, 0), pupil("dan", 2, 0, 0)), "line dan | dan cid bob ann", "split bob | ok", "line dan | dan cid bob", "split cid | ok", "line dan | dan cid", "line cid | cid", "line bob | bob", "line ann | ann")
	hall := kept(t, houseH(), "raise bob", "split bob", "join eve bob")
	if want := []api.Member{head("ann", 6, 3), head("bob", 5, 1), pupil("cid", 0, 2, 0), pupil("eve", 1, 0, 0)}; !slices.Equal(hall.Members, want) {
		t.Error(hall)
	}
}

func TestLineAndHold(t *testing.T) {
	says(t, houseH(), "line ann | ann", "line bob | bob ann", "line cid | cid ann", "line zoe | error 7", "line moon | error 7", "line Ann | error 7", "hold moon | ann bob", "hold deep | ann", "hold sun | error 7", "hold ann | error 7", "hold Moon | error 7")
	says(t, among(head("ann", 9, 0), head("bob", 9, 3), pupil("cid", 0, 9, 0), pupil("dan", 2, 9, 0), pupil("eve", 3, 9, 0), pupil("fay", 1, 9, 2)), "line eve | eve dan cid ann", "line fay | fay bob", "hold moon | bob", "hold deep | bob fay")
	says(t, among(head("ann", 9, 2)), "hold moon | none", "hold deep | ann")
	// Both may be asked while a gathering is going on.
	says(t, houseH(), "gather bob | seats bob", "line bob | bob ann", "hold moon | ann bob", "raise cid | ok", "show cid moon | ok", "hold moon | ann bob cid", "join eve ann | ok", "raise bob | ok", "split bob | ok", "line bob | bob")
}

func TestGather(t *testing.T) {
	// The errors come in this order: ErrState, ErrMissing, ErrExists.
	says(t, houseH(), "gather zoe | error 7", "gather ann zoe | error 7", "gather ann ann zoe | error 7", "gather ann bob ann | error 9", "gather ann bob cid bob | error 9", "gather bob | seats bob", "gather zoe | error 10", "gather ann ann | error 10", "gather bob | error 10")
	for _, line := range []string{"gather ann bob cid", "gather ann cid bob", "gather bob ann cid", "gather bob cid ann", "gather cid ann bob", "gather cid bob ann"} {
		says(t, houseH(), line+" | seats ann bob cid")
	}
	hall := kept(t, houseH(), "day 3", "gather cid bob")
	if want := (api.Table{Packets: 3, State: api.TableOpen, Answers: [][]int{{-1, -1, -1}, {-1, -1, -1}}}); hall.Day != 3 || !slices.Equal(hall.Guests, []int{1, 2}) || !slices.Equal(hall.Course, []int{0, 2, 1}) || !sameTable(hall.Table, want) || len(hall.Records) > 0 {
		t.Error(hall)
	}
	// Five guests, of one lineage or of five.
	five := func(teacher int) api.House {
		l := []api.Member{head("ann", 9, 0)}
		for _, word := range []string{"bob", "cid", "dan", "eve", "fay"} {
			l = append(l, pupil(word, teacher, 9, 0))
		}
		return among(l...)
	}
	for _, teacher := range []int{0, -1} {
		says(t, five(teacher), "gather ann bob cid dan eve fay | error 3", "gather fay eve cid bob dan | seats bob cid dan eve fay")
	}
	// Greater grades sit first, then those of one lineage sit together, then lesser numbers sit first.
	members := []api.Member{head("ann", 5, 0), head("bob", 5, 0), pupil("cid", 0, 5, 0), pupil("dan", 1, 5, 0), pupil("eve", 0, 4, 0)}
	says(t, among(members...), "gather ann bob cid dan eve | seats bob dan ann cid eve")
	says(t, among(members...), "gather ann bob cid dan | seats ann cid bob dan")
	says(t, among(members...), "gather eve bob | seats bob eve")
	says(t, among(members...), "gather eve dan bob cid | seats bob dan cid eve")
	says(t, among(members...), "gather dan ann bob | seats ann bob dan")
	says(t, among(members...), "split cid | ok", "gather ann bob cid dan | seats ann bob dan cid")
	// A grade that is raised counts, and a lineage is that of the head, not of the teacher.
	says(t, among(head("ann", 6, 0), pupil("bob", 0, 4, 0), pupil("cid", 0, 5, 0), pupil("dan", 1, 4, 0)), "gather bob cid | seats cid bob", "pass | ok", "pass | ok", "pass | ok", "close | ok", "open | points cid 0 1 bob 0 1", "raise bob | ok", "gather cid bob | seats bob cid")
	says(t, among(head("ann", 4, 0), pupil("bob", 0, 4, 0), head("cid", 4, 0), pupil("dan", 1, 4, 0)), "gather ann cid dan | seats ann dan cid")
}

// The picks are the numbers of the house, one after the other, each gathering seven further on.
func TestPicks(t *testing.T) {
	// play gathers so many times, and returns the courses.
	play := func(h api.House, times int) [][]int {
		var lines []string
		var l [][]int
		for range times {
			lines = append(lines, "gather "+h.Members[0].Name)
			l = append(l, kept(t, h, lines...).Course)
			lines = append(append(lines, slices.Repeat([]string{"pass"}, len(l[0]))...), "close", "open")
		}
		return l
	}
	for i, c := range []struct {
		game    api.Game
		numbers []int
		want    [][]int
	}{
		{houseH().Game, []int{0, 2, 1}, [][]int{{0, 2, 1}, {1, 0, 0}, {0, 0, 1}, {0, 2, 1}}},
		{houseH().Game, []int{0}, [][]int{{0, 0, 1}, {0, 0, 1}}},
		{houseH().Game, []int{3, 2, 1}, [][]int{{2, 1, 0}, {1, 0, 2}, {0, 0, 1}}},
		{houseH().Game, []int{1000000, 999999, 1000000}, [][]int{{0, 0, 1}, {2, 0, 0}, {0, 1, 2}}},
		{houseH().Game, []int{7, 0, 0, 0, 0, 0, 0, 5}, [][]int{{2, 0, 0}, {0, 1, 0}, {0, 2, 1}, {0, 0, 2}, {0, 0, 1}, {0, 0, 1}, {0, 0, 1}}},
		{gameOf("place 1"), []int{5}, [][]int{{1}, {1}}},
		{gameOf("mix 0 0 1", "mix 1 1 1", "pass 1 1", "pass 0 1"), []int{9, 8}, [][]int{{1, 0}}},
		// a a b b in the bag 0: one is set aside, and the others are poured to c.
		{gameOf("mix 0 0 2", "mix 0 1 2", "aside 0 1", "mix 1 2 1", "pour 0 1", "pass 1 2"), []int{3, 3, 0}, [][]int{{2, 0}, {0, 0}, {2, 0}}},
		// A bag that was poured out is filled anew.
		{gameOf("mix 0 0 1", "pour 0 1", "mix 0 1 2", "pass 0 1", "pass 1 1", "pour 1 0", "pass 0 1"), []int{4, 3, 2}, [][]int{{1, 0, 1}}},
		// The number of the packet goes on over all deals, also those that set packets aside.
		{gameOf("mix 0 0 1", "mix 0 1 1", "mix 0 2 1", "mix 1 0 1", "mix 1 2 1", "aside 0 1", "pass 1 1", "pass 0 1"), []int{0, 1, 0, 0, 0, 0, 0, 1}, [][]int{{2, 1}, {0, 2}}},
	} {
		h := houseWith(func(h *api.House) { h.Game, h.Numbers = c.game, c.numbers })
		if got := play(h, len(c.want)); !slices.EqualFunc(got, c.want, slices.Equal[[]int]) {
			t.Error(i, got, c.want)
		}
	}
}

func TestDeeds(t *testing.T) {
	for _, line := range []string{"pass", "pause", "resume", "close", "open", "write ann 0 0", "write zoe 0 0"} {
		says(t, houseH(), line+" | error 10")
	}
	says(t, houseH(), "gather ann | seats ann", "resume | error 10", "close | error 6", "open | error 10", "pass | ok", "pause | ok", "pause | error 10", "pass | error 10", "close | error 10", "open | error 10", "write ann 0 0 | error 10", "resume | ok", "resume | error 10", "pass | ok", "close | error 6", "pass | ok", "pass | error 8", "close | ok", "close | error 10", "pass | error 10", "pause | error 10", "resume | error 10", "write ann 0 0 | error 10", "open | points ann 0 1", "open | error 10", "close | error 10", "pass | error 10")
	states := []struct {
		line          string
		passed, state int
	}{{"gather ann bob", 0, api.TableOpen}, {"pass", 1, api.TableOpen}, {"pause", 1, api.TablePaused}, {"resume", 1, api.TableOpen}, {"pass", 2, api.TableOpen}, {"pass", 3, api.TableOpen}, {"pass", 3, api.TableOpen}, {"close", 3, api.TableClosed}}
	var lines []string
	for _, s := range states {
		lines = append(lines, s.line)
		if hall := kept(t, houseH(), lines...); hall.Table.Passed != s.passed || hall.Table.State != s.state || hall.Table.Packets != 3 || len(hall.Table.Answers) != 2 {
			t.Error(lines, hall)
		}
	}
}

func TestWrite(t *testing.T) {
	// The errors come in this order: ErrState, ErrMissing, ErrMissing, and then those of the deed.
	says(t, houseH(), "write zoe 9 9 | error 10", "gather cid bob | seats bob cid", "write zoe 0 0 | error 7", "write ann 0 0 | error 7", "write bob 0 0 | error 13", "pass | ok", "write bob 0 9 | error 2", "write bob 0 999999 | error 2", "write bob 1 0 | error 13", "write bob 1 9 | error 13", "write bob 3 0 | error 7", "write bob 999999 9 | error 7", "write bob 0 8 | ok", "write cid 0 0 | ok", "write cid 0 - | ok", "write bob 0 0 | ok", "pass | ok", "write cid 1 3 | ok", "pause | ok", "write cid 1 2 | error 10", "write ann 1 2 | error 7", "write zoe 1 2 | error 7")
	hall := kept(t, houseH(), "gather cid bob", "pass", "pass", "write bob 0 8", "write cid 1 3", "write cid 0 0", "write cid 0 -", "write bob 1 1", "write bob 1 9", "write ann 0 7")
	if !slices.EqualFunc(hall.Table.Answers, [][]int{{8, 1, -1}, {-1, 3, -1}}, slices.Equal[[]int]) {
		t.Error(hall)
	}
	// A guest is found by its seat, not by its number.
	hall = kept(t, among(head("ann", 1, 0), head("bob", 2, 0), head("cid", 3, 0)), "gather ann cid bob", "pass", "write ann 0 1", "write bob 0 2", "write cid 0 3")
	if !slices.Equal(hall.Guests, []int{2, 1, 0}) || !slices.EqualFunc(hall.Table.Answers, [][]int{{3, -1, -1}, {2, -1, -1}, {1, -1, -1}}, slices.Equal[[]int]) {
		t.Error(hall)
	}
	// A word that names nobody is no guest, either.
	says(t, houseH(), "gather ann bob cid | seats ann bob cid", "pass | ok", "write zoe 0 0 | error 7", "write moon 0 0 | error 7")
	// Whoever joins while a gathering is going on is no guest.
	says(t, houseH(), "gather ann | seats ann", "pass | ok", "join eve ann | ok", "write eve 0 0 | error 7", "write ann 0 0 | ok")
}

func TestOpen(t *testing.T) {
	// The course is a c b: bob says so, cid that all are the same, ann nothing.
	lines := []string{"day 4", "gather ann bob cid", "pass", "pass", "pass", "write bob 0 0", "write bob 1 1", "write bob 2 2", "write cid 0 0", "write cid 1 0", "write cid 2 0", "close"}
	if got := replies(t, houseH(), append(lines, "open")...); got[len(lines)] != "points ann 0 2 bob 34 1 cid -1 3" {
		t.Error(got)
	}
	hall := kept(t, houseH(), append(lines, "open", "day 9")...)
	want := api.Record{Day: 4, Guests: []int{0, 1, 2}, Points: []int{0, 34, -1}, Places: []int{2, 1, 3}}
	if len(hall.Guests)+len(hall.Course) > 0 || !sameTable(hall.Table, api.Table{}) || len(hall.Records) != 1 || !sameRecord(hall.Records[0], want) || hall.Day != 9 {
		t.Error(hall)
	}
	// Points below 0 have a sign; they and the places are told by seats, with the names at that time.
	h := among(head("ann", 1, 0), pupil("bob", 0, 1, 0), head("cid", 2, 0))
	got := replies(t, h, append(slices.Clone(lines), "open", "gather bob")...)
	if got[1] != "seats cid ann bob" || got[len(lines)] != "points cid -1 3 ann 0 2 bob 34 1" || got[len(lines)+1] != "seats bob" {
		t.Error(got)
	}
	// Without keys all have the first place; with the seat as a key nobody has the same one.
	for _, c := range []struct {
		keys []int
		want string
	}{{nil, "points ann 0 1 bob 34 1 cid -1 1"}, {[]int{api.KeySeat}, "points ann 0 1 bob 34 2 cid -1 3"}, {[]int{api.KeyPackets}, "points ann 0 3 bob 34 1 cid -1 2"}} {
		h := houseWith(func(h *api.House) { h.Scoring.Keys = c.keys })
		if got := replies(t, h, append(slices.Clone(lines), "open")...); got[len(lines)] != c.want {
			t.Error(c, got)
		}
	}
	// The next gathering is another one, on the same day if there is no other one.
	says(t, houseH(), "gather ann | seats ann", "pass | ok", "pass | ok", "pass | ok", "close | ok", "open | points ann 0 1", "gather ann bob | seats ann bob", "pass | ok", "write bob 0 1 | ok", "pass | ok", "pass | ok", "close | ok", "open | points ann 0 2 bob 6 1", "gather cid | seats cid")
}

func TestSing(t *testing.T) {
	says(t, houseH(), "sing 0 | sure", "sing 300 | sure", "sing 301 | error 2", "sing 999999 | error 2")
	// The water gets warmer by 10 in each minute: it is 380..390 at first, and sings from 400 to 440.
	warmer := houseWith(func(h *api.House) {
		h.Fire = api.Fire{Coals: []api.Coal{{Catch: api.Span{Lo: 1, Hi: 1}, Burn: api.Span{Lo: 300, Hi: 300}, Heat: api.Span{Lo: 1, Hi: 1}, Lit: true}}}
		h.Kettle = api.Kettle{Water: 2, Warm: api.Span{Lo: 380, Hi: 390}, Gain: 20, Sing: 400, Boil: 440}
	})
	says(t, warmer, "sing 0 | never", "sing 1 | open", "sing 2 | sure", "sing 3 | sure", "sing 4 | sure", "sing 5 | sure", "sing 6 | open", "sing 7 | never", "sing 3 | sure")
	// A pour counts, too.
	warmer.Pours = []api.Pour{{Minute: 3, Ladles: 2, Warm: 0}}
	says(t, warmer, "sing 2 | sure", "sing 3 | never", "sing 300 | never")
	// It may be asked while a gathering is going on, and on any day.
	says(t, houseH(), "gather ann | seats ann", "sing 5 | sure", "sing 301 | error 2", "pass | ok", "day 5 | error 10")
}

func TestRite(t *testing.T) {
	says(t, houseH(), "rite 0 | firm", "rite 9 | firm", "rite 10 | error 2", "rite 999999 | error 2")
	with := func(r api.Rite) api.House { return houseWith(func(h *api.House) { h.Rite = r }) }
	says(t, with(wiping(1)), "rite 0 | firm", "gather ann | seats ann", "rite 9 | firm")
	says(t, with(wiping(0)), "rite 0 | lapse 0 1", "day 1000 | ok", "rite 9 | lapse 0 1", "rite 10 | error 2")
	// Where all is seen, nothing can be mended: the first lapse is that of the first act.
	late := wiping(0)
	late.Lapses = []int{api.LapseHand, api.LapseLate}
	says(t, with(late), "rite 0 | lapse 0 2")
	late.Lapses = []int{api.LapseLate}
	says(t, with(late), "rite 0 | firm")
	// One that is not accepted: what stays in a hand, what is not possible, and what clashes.
	short := wiping(1)
	short.Acts = short.Acts[:4]
	says(t, with(short), "rite 0 | error 11", "rite 10 | error 2")
	empty := wiping(1)
	empty.Acts = empty.Acts[2:]
	says(t, with(empty), "rite 0 | error 10")
	both := api.Rite{Wide: 3, Deep: 1, People: []api.Person{{Role: api.RoleHost}, {Role: api.RoleGuest, Cell: 2}}}
	both.Acts = []api.Act{{Kind: api.ActStep, Cell: 1}, {Who: 1, Kind: api.ActStep, Cell: 1}}
	says(t, with(both), "rite 0 | error 12")
}

// A season has ninety days, and after four of them the first one comes again; acts for a rank are done for greater ones, too.
func TestRiteOfSeasonsAndRanks(t *testing.T) {
	for season := range 4 {
		r := wiping(1)
		// The bowl is wiped in this season alone.
		r.Acts[2].Seasons = 1 << season
		h := houseWith(func(h *api.House) { h.Rite = r })
		for _, day := range []int{0, 89, 90, 179, 180, 269, 270, 359, 360, 449, 450, 720, 809, 810, 899, 900, 989, 990, 1000} {
			want := "error 11"
			if day/90%4 == season {
				want = "firm"
			}
			says(t, h, "day "+strconv.Itoa(day)+" | ok", "rite 5 | "+want)
		}
	}
	for least := range api.MaxGrade + 1 {
		r := wiping(1)
		r.Acts[2].Rank = least
		h := houseWith(func(h *api.House) { h.Rite = r })
		for rank := range api.MaxGrade + 1 {
			want := "error 11"
			if rank >= least {
				want = "firm"
			}
			says(t, h, "rite "+strconv.Itoa(rank)+" | "+want)
		}
	}
	// The act that is named is one of those that are chosen.
	r := wiping(1)
	r.Acts = append([]api.Act{{Kind: api.ActCover, Rank: 9}}, r.Acts...)
	for i := range r.Acts[1:] {
		r.Acts[i+1].At++
	}
	r.Seen = []int{0, 1}
	h := houseWith(func(h *api.House) { h.Rite = r })
	says(t, h, "rite 8 | lapse 0 1", "rite 9 | error 10")
}

// P10.2

func TestReports(t *testing.T) {
	for _, c := range []struct {
		h     api.House
		lines []string
		want  []string
	}{
		{houseH(), nil, []string{"day 0", "member ann - 6 moon deep", "member bob ann 4 moon", "member cid ann 2", "end"}},
		{houseH(), []string{"day 1000", "fuel", "raise cid", "show cid moon", "raise bob", "split bob", "join eve bob"}, []string{"day 1000", "member ann - 6 moon deep", "member bob - 5 moon", "member cid ann 3 moon", "member eve bob 0", "end"}},
		{among(head("a", 0, 0)), nil, []string{"day 0", "member a - 0", "end"}},
		{among(head("ann", 9, 2), head("bob", 9, 3), pupil("cid", 1, 9, 1)), nil, []string{"day 0", "member ann - 9 deep", "member bob - 9 moon deep", "member cid bob 9 moon", "end"}},
		// A gathering that is going on is not told.
		{houseH(), []string{"day 2", "gather cid ann", "pass", "write ann 0 0"}, []string{"day 2", "member ann - 6 moon deep", "member bob ann 4 moon", "member cid ann 2", "end"}},
		{
			houseWith(func(h *api.House) { h.Game = gameOf("place 0", "place 0"); h.Scoring.Loss = 7 }),
			[]string{
				"day 2", "gather cid ann", "pass", "pass", "write ann 0 0", "write ann 1 1", "close", "open", "day 3",
				"gather bob", "pass", "pass", "write bob 0 0", "write bob 1 0", "close", "open", "gather ann", "pass", "pass", "close", "open", "day 44",
			},
			[]string{"day 44", "member ann - 6 moon deep", "member bob ann 4 moon", "member cid ann 2", "game 2 ann -6 2 cid 0 1", "game 3 bob 14 1", "game 3 ann 0 1", "end"},
		},
	} {
		if rows := told(t, c.h, c.lines...); !slices.Equal(rows, c.want) {
			t.Error(c.lines, rows)
		}
	}
}
