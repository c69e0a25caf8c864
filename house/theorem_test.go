package house_test

import (
	"fmt"
	"maps"
	"math/rand/v2"
	"slices"
	"strconv"
	"strings"
	"testing"

	"aloeswood/api"
	"aloeswood/game"
	"aloeswood/hearth"
	"aloeswood/house"
	"aloeswood/rite"
	"aloeswood/score"
	"aloeswood/seat"
)

// isRefused tells whether a reply says that its line is refused.
func isRefused(reply string) bool { return strings.HasPrefix(reply, "error ") }

// first returns the first word of a text.
func first(text string) string {
	word, _, _ := strings.Cut(text, " ")
	return word
}

// P10.1 to P10.10: whatever the lines are, replies, halls and reports are those of the judge.
func TestSheetsAreJudged(t *testing.T) {
	said := map[string]int{}
	for _, p := range plays(1, 1000, api.MaxLines) {
		j := judgeOf(p.h)
		got := replies(t, p.h, p.lines...)
		if len(got) != len(p.lines) {
			t.Fatal(p, got)
		}
		for i, line := range p.lines {
			want := j.reply(line)
			if got[i] != want {
				t.Fatalf("%v\n%q\n%q: %q, not %q", p.h, p.lines[:i], line, got[i], want)
			}
			kind := first(line)
			if isRefused(want) {
				kind += " " + want
			}
			said[kind]++
		}
		if hall := kept(t, p.h, p.lines...); !same(hall, j.hall()) {
			t.Fatal(p, hall, j.hall())
		}
		if rows := told(t, p.h, p.lines...); !slices.Equal(rows, j.report()) {
			t.Fatal(p, rows, j.report())
		}
	}
	for _, kind := range []string{
		"day", "day error 2", "day error 3", "day error 10", "join", "join error 3", "join error 6", "join error 7", "join error 8", "join error 9",
		"raise", "raise error 7", "raise error 10", "raise error 12", "show", "show error 3", "show error 6", "show error 7", "show error 8", "show error 9", "show error 10", "show error 12",
		"split", "split error 6", "split error 7", "split error 10", "line", "line error 3", "line error 7", "hold", "hold error 7",
		"gather", "gather error 3", "gather error 7", "gather error 10", "pass", "pass error 3", "pass error 8", "pass error 10", "pause", "pause error 10", "resume", "resume error 10",
		"close", "close error 6", "close error 10", "write", "write error 2", "write error 3", "write error 7", "write error 10", "write error 13", "open", "open error 3", "open error 10",
		"sing", "sing error 3", "rite", "rite error 2", "rite error 11", " error 3", "fuel error 3",
	} {
		if said[kind] < 10 {
			t.Error(kind, said[kind])
		}
	}
}

// P10.3: there are as many replies as lines; what a sheet replies is the beginning of what it replies with more lines.
func TestLonger(t *testing.T) {
	for _, p := range plays(2, 12, 60) {
		all := replies(t, p.h, p.lines...)
		for i := range p.lines {
			if got := replies(t, p.h, p.lines[:i]...); len(got) != i || !slices.Equal(got, all[:i]) {
				t.Fatal(p, i, got, all)
			}
		}
	}
}

// accepted returns the lines of a play that are not refused, and the replies to them.
func accepted(t *testing.T, p play) (lines, said []string) {
	for i, reply := range replies(t, p.h, p.lines...) {
		if !isRefused(reply) {
			lines, said = append(lines, p.lines[i]), append(said, reply)
		}
	}
	return lines, said
}

// P10.4: lines with errors can be left out.
func TestWithoutTheRefused(t *testing.T) {
	random := rand.New(rand.NewPCG(3, 10))
	fewer := 0
	for _, p := range plays(4, 300, 80) {
		lines, said := accepted(t, p)
		if !slices.Equal(replies(t, p.h, lines...), said) || !same(kept(t, p.h, lines...), kept(t, p.h, p.lines...)) || !slices.Equal(told(t, p.h, lines...), told(t, p.h, p.lines...)) {
			t.Fatal(p, lines)
		}
		fewer += len(p.lines) - len(lines)
		// Neither does it matter if some of them stay.
		all := replies(t, p.h, p.lines...)
		lines = nil
		for i, line := range p.lines {
			if !isRefused(all[i]) || random.IntN(2) == 0 {
				lines = append(lines, line)
			}
		}
		if !same(kept(t, p.h, lines...), kept(t, p.h, p.lines...)) {
			t.Fatal(p, lines)
		}
	}
	if fewer < 2000 {
		t.Error(fewer)
	}
}

// P10.5: the members after a sheet are those of a valid house; grades and variants only grow.
func TestMembersStayValid(t *testing.T) {
	raised, shown, left, joined := 0, 0, 0, 0
	for _, p := range plays(5, 100, 90) {
		before := p.h.Members
		for i := range p.lines {
			members := kept(t, p.h, p.lines[:i+1]...).Members
			after := copied(p.h)
			after.Members = members
			if e := house.Check(after); e != api.OK || len(members) < len(before) {
				t.Fatal(p, i, members, e)
			}
			for number, m := range before {
				now := members[number]
				if now.Name != m.Name || now.Grade < m.Grade || now.Holds&m.Holds != m.Holds || now.Teacher != m.Teacher && now.Teacher != -1 {
					t.Fatal(p, i, m, now)
				}
				raised += now.Grade - m.Grade
				if now.Holds != m.Holds {
					shown++
				}
				if now.Teacher != m.Teacher {
					left++
				}
			}
			joined += len(members) - len(before)
			before = members
		}
		isLineage(t, p, before)
	}
	if raised < 200 || shown < 15 || left < 10 || joined < 40 {
		t.Error(raised, shown, left, joined)
	}
}

// isLineage fails the test if what is said of teachers, grades and variants is not so among some members.
func isLineage(t *testing.T, p play, members []api.Member) {
	t.Helper()
	secret := map[[2]int]int{}
	for number, m := range members {
		if m.Teacher == -1 {
			continue
		}
		teacher := members[m.Teacher]
		if m.Teacher >= number || m.Grade > teacher.Grade || m.Holds&^teacher.Holds != 0 {
			t.Fatal(p, m, teacher)
		}
		for variant, v := range p.h.Variants {
			if v.Secret {
				secret[[2]int{m.Teacher, variant}] += m.Holds >> variant & 1
			}
		}
	}
	for _, pupils := range secret {
		if pupils > 1 {
			t.Fatal(p, members, secret)
		}
	}
}

// P10.6: if the table, while it is open, is paused and resumed, and lines that ask alone are added, the records are the same.
func TestInterrupted(t *testing.T) {
	random := rand.New(rand.NewPCG(6, 10))
	games := 0
	for _, p := range plays(7, 200, 50) {
		var more []string
		for i, line := range p.lines {
			more = append(more, line)
			if kept(t, p.h, p.lines[:i+1]...).Table.State == api.TableOpen && random.IntN(2) == 0 {
				more = append(more, "pause", "resume")
			}
			if random.IntN(4) == 0 {
				more = append(more, oneOf(random, "line "+p.h.Members[0].Name, "hold moon", "sing 3", "rite 2", "rite 20", "line nobody"))
			}
		}
		if len(more) > api.MaxLines {
			continue
		}
		hall := kept(t, p.h, p.lines...)
		if other := kept(t, p.h, more...); !same(hall, other) {
			t.Fatal(p, more, hall, other)
		}
		games += len(hall.Records)
	}
	if games < 100 {
		t.Error(games)
	}
}

// T5: the table of a gathering can be saved and loaded after any line: it goes on as it would have.
func TestTablesAreSavedAndLoaded(t *testing.T) {
	deeds := map[string]int{"pass": api.DeedPass, "pause": api.DeedPause, "resume": api.DeedResume, "close": api.DeedClose, "open": api.DeedOpen}
	games := 0
	for _, p := range plays(8, 100, 60) {
		said := replies(t, p.h, p.lines...)
		var halls []api.Hall
		for i := range p.lines {
			halls = append(halls, kept(t, p.h, p.lines[:i+1]...))
		}
		for i, hall := range halls {
			if len(hall.Guests) == 0 {
				continue
			}
			now := loaded(t, hall.Table)
			for k := i + 1; k < len(p.lines); k++ {
				words := strings.Split(p.lines[k], " ")
				d := api.Deed{Kind: deeds[words[0]]}
				if words[0] == "write" && len(words) == 4 {
					d = written(halls[k-1], words[1:])
				}
				if d.Kind == 0 || isRefused(said[k]) {
					continue
				}
				now = loaded(t, must[api.Table](t)(score.Do(now, d)))
				if d.Kind == api.DeedOpen {
					isRecorded(t, p.h, hall, now, halls[k].Records[len(hall.Records)])
					games++
					break
				}
				if !sameTable(now, halls[k].Table) {
					t.Fatal(p, i, k, now, halls[k])
				}
			}
		}
	}
	if games < 200 {
		t.Error(games)
	}
}

// loaded returns a table that was saved and loaded.
func loaded(t *testing.T, table api.Table) api.Table {
	t.Helper()
	text := must[string](t)(score.Save(table))
	back, _, e := score.Load(text)
	if e != api.OK || !sameTable(back, table) {
		t.Fatal(table, text, back, e)
	}
	return back
}

// written returns the deed of a line "write", with the words behind the first one; one without a kind if its member is no guest.
func written(h api.Hall, words []string) api.Deed {
	seat := slices.IndexFunc(h.Guests, func(guest int) bool { return h.Members[guest].Name == words[0] })
	packet, err := strconv.Atoi(words[1])
	if seat < 0 || err != nil {
		return api.Deed{}
	}
	d := api.Deed{Kind: api.DeedWrite, Guest: seat, Packet: packet, Number: -1}
	if n, err := strconv.Atoi(words[2]); err == nil {
		d.Number = n
	}
	return d
}

// isRecorded fails the test if a record is not what score says of a table that is shown, in the gathering of a hall.
func isRecorded(t *testing.T, h api.House, hall api.Hall, table api.Table, r api.Record) {
	t.Helper()
	scores, places, e := score.Result(h.Scoring, must[[]int](t)(game.Due(h.Game, api.Ask{Kind: api.AskSame}, hall.Course)), table)
	if e != api.OK || !slices.Equal(r.Guests, hall.Guests) || !slices.Equal(r.Places, places) || len(r.Points) != len(scores) {
		t.Fatal(hall, table, r, scores, places, e)
	}
	for seat, s := range scores {
		if r.Points[seat] != s.Points {
			t.Fatal(hall, table, r, scores)
		}
	}
}

// P10.7: points and places are those that score says of what was written, for a course that the game may take.
func TestRecordsAreScored(t *testing.T) {
	games, tied, lost := 0, 0, 0
	for _, p := range plays(9, 250, 80) {
		for i, reply := range replies(t, p.h, p.lines...) {
			if first(reply) != "points" {
				continue
			}
			before, after := kept(t, p.h, p.lines[:i]...), kept(t, p.h, p.lines[:i+1]...)
			ways, _, e := game.Ways(p.h.Game, before.Course)
			if ways == 0 || e != api.OK || before.Table.State != api.TableClosed {
				t.Fatal(p, before, ways, e)
			}
			r := after.Records[len(after.Records)-1]
			isRecorded(t, p.h, before, must[api.Table](t)(score.Do(before.Table, api.Deed{Kind: api.DeedOpen})), r)
			if r.Day != before.Day || len(after.Records) != len(before.Records)+1 || len(after.Guests)+len(after.Course) > 0 || !sameTable(after.Table, api.Table{}) {
				t.Fatal(p, before, after)
			}
			games++
			if len(r.Places) > 1 && slices.Max(r.Places) < len(r.Places) {
				tied++
			}
			if slices.Min(r.Points) < 0 {
				lost++
			}
		}
	}
	if games < 150 || tied < 30 || lost < 10 {
		t.Error(games, tied, lost)
	}
}

// P10.7: the first gatherings have the courses to which the numbers of the house lead, packet by packet.
func TestCoursesOfManyGatherings(t *testing.T) {
	random := rand.New(rand.NewPCG(10, 10))
	courses := map[string]bool{}
	for range 300 {
		h := someHouse(random)
		var lines []string
		for k := 0; len(lines) < api.MaxLines-12; k++ {
			lines = append(lines, "gather "+h.Members[0].Name)
			hall := kept(t, h, lines...)
			if want := dealt(h, k); !slices.Equal(hall.Course, want) || len(hall.Records) != k {
				t.Fatal(h, k, hall.Course, want)
			}
			courses[fmt.Sprint(h.Game, hall.Course)] = true
			lines = append(lines, slices.Repeat([]string{"pass"}, len(hall.Course))...)
			lines = append(lines, "close", "open")
		}
	}
	if len(courses) < 20 {
		t.Error(len(courses))
	}
}

// P10.8: nobody sits before anyone with a greater grade, and no order that keeps this has fewer neighbours of unlike heads.
func TestSeatsOfGuests(t *testing.T) {
	random := rand.New(rand.NewPCG(11, 10))
	mixed, moved := 0, 0
	for range 1500 {
		h := someHouse(random)
		someMembers(random, &h, 1+random.IntN(12))
		// Many have the same grade.
		for i := range h.Members {
			h.Members[i].Holds = 0
			h.Members[i].Grade = min(h.Members[i].Grade, random.IntN(3)+1)
			if teacher := h.Members[i].Teacher; teacher >= 0 {
				h.Members[i].Grade = min(h.Members[i].Grade, h.Members[teacher].Grade)
			}
		}
		j := judgeOf(h)
		words := slices.Clone(j.members)
		random.Shuffle(len(words), func(i, k int) { words[i], words[k] = words[k], words[i] })
		words = words[:min(len(words), 1+random.IntN(api.MaxGather))]
		hall := kept(t, h, "gather "+strings.Join(words, " "))
		var seats []string
		for _, guest := range hall.Guests {
			seats = append(seats, h.Members[guest].Name)
		}
		if !j.isRanked(seats) || !slices.Equal(slices.Sorted(slices.Values(seats)), slices.Sorted(slices.Values(words))) {
			t.Fatal(h, words, seats)
		}
		isBest := true
		for _, order := range orders(words) {
			if j.isRanked(order) && j.strangers(order) < j.strangers(seats) {
				isBest = false
			}
		}
		if !isBest || !slices.Equal(seats, j.seats(words)) || !slices.Equal(seats, atTable(t, j, words)) {
			t.Fatal(h, words, seats)
		}
		if j.strangers(seats) > 0 {
			mixed++
		}
		if !slices.IsSorted(hall.Guests) {
			moved++
		}
	}
	if mixed < 300 || moved < 300 {
		t.Error(mixed, moved)
	}
}

// atTable returns how seat seats some members.
func atTable(t *testing.T, j *judge, words []string) []string {
	t.Helper()
	var p api.Party
	for _, word := range j.members {
		if slices.Contains(words, word) {
			p.Guests = append(p.Guests, api.Guest{Name: word, Rank: j.grade[word]})
		}
	}
	p.Rules = append(p.Rules, api.Rule{Kind: api.RuleRank})
	for b := range p.Guests {
		for a := range b {
			if j.head(p.Guests[a].Name) != j.head(p.Guests[b].Name) {
				p.Rules = append(p.Rules, api.Rule{Kind: api.RuleApart, A: a, B: b, Weight: 1})
			}
		}
	}
	order, _, e := seat.Best(p)
	if e != api.OK {
		t.Fatal(p, e)
	}
	var seats []string
	for _, guest := range order {
		seats = append(seats, p.Guests[guest].Name)
	}
	return seats
}

// P10.9: who holds a variant, and who taught whom, is as the hall says.
func TestAskedOfTheHall(t *testing.T) {
	for _, p := range plays(12, 120, 60) {
		hall := kept(t, p.h, p.lines...)
		for number, m := range hall.Members {
			want := []string{m.Name}
			for teacher := m.Teacher; teacher != -1; teacher = hall.Members[teacher].Teacher {
				want = append(want, hall.Members[teacher].Name)
			}
			lines := append(slices.Clone(p.lines), "line "+m.Name)
			if got := replies(t, p.h, lines...); got[len(p.lines)] != strings.Join(want, " ") {
				t.Fatal(p, number, got[len(p.lines)], want)
			}
		}
		for variant, v := range p.h.Variants {
			var want []string
			for _, m := range hall.Members {
				if m.Holds&(1<<variant) > 0 {
					want = append(want, m.Name)
				}
			}
			if len(want) == 0 {
				want = []string{"none"}
			}
			lines := append(slices.Clone(p.lines), "hold "+v.Name)
			if got := replies(t, p.h, lines...); got[len(p.lines)] != strings.Join(want, " ") {
				t.Fatal(p, variant, got[len(p.lines)], want)
			}
		}
	}
}

// P10.9: sing says what hearth says.
func TestAskedOfTheHearth(t *testing.T) {
	random := rand.New(rand.NewPCG(13, 10))
	said := map[string]int{}
	words := map[int]string{api.Sure: "sure", api.Never: "never", api.Open: "open"}
	for range 400 {
		h := someHouse(random)
		var lines []string
		for minute := range 30 {
			lines = append(lines, "sing "+strconv.Itoa(minute))
		}
		verdicts := must[[]int](t)(hearth.Sings(h.Kettle, h.Fire, h.Pours, 29))
		for minute, reply := range replies(t, h, lines...) {
			if reply != words[verdicts[minute]] {
				t.Fatal(h, minute, reply, verdicts)
			}
			said[reply]++
		}
	}
	if len(said) != 3 || slices.Min(slices.Collect(maps.Values(said))) < 200 {
		t.Error(said)
	}
}

// P10.9, T7: where the house says that a rite is firm, each lapse that may happen in it has a mend, with which it is accepted; where it names a lapse, this has none.
func TestAskedOfTheRite(t *testing.T) {
	said := map[string]int{}
	for _, r := range rites() {
		h := houseWith(func(h *api.House) { h.Rite = r })
		for day := 0; day <= 400; day += 45 {
			for rank := range api.MaxGrade + 1 {
				reply := replies(t, h, "day "+strconv.Itoa(day), "rite "+strconv.Itoa(rank))[1]
				r := must[api.Rite](t)(rite.Choose(h.Rite, day/90%4, rank))
				isMended(t, r, reply)
				said[first(reply)]++
			}
		}
	}
	if len(said) != 3 || slices.Min(slices.Collect(maps.Values(said))) < 10 {
		t.Error(said)
	}
}

// isMended fails the test if what the house replies to "rite" is not so of a rite.
func isMended(t *testing.T, r api.Rite, reply string) {
	t.Helper()
	if _, _, e := rite.Run(r); e != api.OK {
		if reply != e.Error() {
			t.Fatal(r, reply, e)
		}
		return
	}
	for act, a := range r.Acts {
		for _, kind := range r.Lapses {
			if kind == api.LapseHand && a.Kind == api.ActStep {
				continue
			}
			mend, e := rite.Mend(r, act, kind)
			if e != api.OK {
				if e != api.ErrMissing || reply != "lapse "+strconv.Itoa(act)+" "+strconv.Itoa(kind) {
					t.Fatal(r, act, kind, reply, e)
				}
				return
			}
			if _, _, e := rite.Run(must[api.Rite](t)(rite.Mended(r, act, kind, mend))); e != api.OK {
				t.Fatal(r, act, kind, mend, e)
			}
		}
	}
	if reply != "firm" {
		t.Fatal(r, reply)
	}
}

// alone returns a fire of some coals of another one alone, with the touches between them.
func alone(f api.Fire, coals []int) api.Fire {
	var l api.Fire
	for _, coal := range coals {
		l.Coals = append(l.Coals, f.Coals[coal])
	}
	for _, touch := range f.Touches {
		a, b := slices.Index(coals, touch.A), slices.Index(coals, touch.B)
		if a >= 0 && b >= 0 {
			l.Touches = append(l.Touches, api.Touch{A: a, B: b})
		}
	}
	return l
}

// T9: with the coals that are laid for a time alone, the house says of each minute of it that the kettle surely sings.
func TestLaidCoalsLetTheKettleSing(t *testing.T) {
	random := rand.New(rand.NewPCG(14, 10))
	enough := map[int]int{}
	for range 3000 {
		h := someHouse(random)
		someHearth(random, &h, 5)
		from := random.IntN(8)
		to := from + random.IntN(6)
		coals, e := hearth.Lay(h.Kettle, h.Fire, h.Pours, from, to)
		if e != api.OK {
			continue
		}
		enough[len(coals)]++
		h.Fire = alone(h.Fire, coals)
		var lines []string
		for minute := from; minute <= to; minute++ {
			lines = append(lines, "sing "+strconv.Itoa(minute))
		}
		if got := replies(t, h, lines...); slices.ContainsFunc(got, func(reply string) bool { return reply != "sure" }) {
			t.Fatal(h, coals, lines, got)
		}
	}
	if enough[0] < 100 || enough[1] < 50 || enough[2] < 10 {
		t.Error(enough)
	}
}

// P10.10: a report says the hall, member by member, record by record.
func TestReportsTellTheHall(t *testing.T) {
	games := 0
	for _, p := range plays(15, 200, 90) {
		hall := kept(t, p.h, p.lines...)
		rows := told(t, p.h, p.lines...)
		if len(rows) != 2+len(hall.Members)+len(hall.Records) || rows[0] != "day "+strconv.Itoa(hall.Day) || rows[len(rows)-1] != "end" {
			t.Fatal(p, rows, hall)
		}
		// What is read from the rows is the hall.
		read := api.Hall{Day: hall.Day, Guests: hall.Guests, Course: hall.Course, Table: hall.Table}
		memberOf := func(name string) int {
			return slices.IndexFunc(read.Members, func(m api.Member) bool { return m.Name == name })
		}
		for _, row := range rows[1 : len(rows)-1] {
			words := strings.Split(row, " ")
			if words[0] == "member" {
				m := api.Member{Name: words[1], Teacher: memberOf(words[2]), Grade: number(words[3])}
				for _, word := range words[4:] {
					m.Holds |= 1 << slices.IndexFunc(p.h.Variants, func(v api.Variant) bool { return v.Name == word })
				}
				read.Members = append(read.Members, m)
				continue
			}
			r := api.Record{Day: number(words[1])}
			for seat := range slices.Chunk(words[2:], 3) {
				r.Guests, r.Points, r.Places = append(r.Guests, memberOf(seat[0])), append(r.Points, number(seat[1])), append(r.Places, number(seat[2]))
			}
			read.Records = append(read.Records, r)
			games++
		}
		if !same(read, hall) {
			t.Fatal(p, rows, hall)
		}
	}
	if games < 200 {
		t.Error(games)
	}
}
