package house_test

import (
	"maps"
	"math/rand/v2"
	"regexp"
	"slices"
	"strconv"
	"strings"

	"aloeswood/api"
	"aloeswood/hearth"
	"aloeswood/rite"
	"aloeswood/score"
)

// judge is a house in the words of the chapter, by which the package is judged: all is kept by names, bags are lists of packets, and all orders of guests are looked at.
type judge struct {
	h       api.House
	day     int
	members []string          // in the order in which they came
	teacher map[string]string // of those who have one
	grade   map[string]int
	shown   map[[2]string]bool // a member, and a variant that it holds
	guests  []string           // by their seats
	course  []int
	table   api.Table
	records []record
}

// record is what a gathering came to.
type record struct {
	day            int
	guests         []string
	points, places []int
}

// judgeOf returns the judge of a house before its first line.
func judgeOf(h api.House) *judge {
	j := &judge{h: h, teacher: map[string]string{}, grade: map[string]int{}, shown: map[[2]string]bool{}}
	for _, m := range h.Members {
		j.members = append(j.members, m.Name)
		j.grade[m.Name] = m.Grade
		if m.Teacher != -1 {
			j.teacher[m.Name] = h.Members[m.Teacher].Name
		}
		for bit, v := range h.Variants {
			j.shown[[2]string{m.Name, v.Name}] = m.Holds&(1<<bit) != 0
		}
	}
	return j
}

// refusal is the error of a line.
type refusal api.Errno

// refuse stops a line with an error if something is so.
func refuse(is bool, e api.Errno) {
	if is {
		panic(refusal(e))
	}
}

// pattern is how a kind of lines is written, and what does it, with the words behind the first one.
type pattern struct {
	*regexp.Regexp
	do func(*judge, []string) string
}

// patterns are those of all kinds of lines. W stands for a word, N for a number, and M for a number or a -.
var patterns = func() []pattern {
	var l []pattern
	for text, do := range map[string]func(*judge, []string) string{
		"day N": (*judge).toDay, "join W W": (*judge).toJoin, "raise W": (*judge).toRaise, "show W W": (*judge).toShow, "split W": (*judge).toSplit,
		"line W": (*judge).toLine, "hold W": (*judge).toHold,
		"gather W": (*judge).toGather, "gather W W": (*judge).toGather, "gather W W W": (*judge).toGather, "gather W W W W": (*judge).toGather, "gather W W W W W": (*judge).toGather,
		"pass": deed(api.DeedPass), "pause": deed(api.DeedPause), "resume": deed(api.DeedResume), "close": deed(api.DeedClose),
		"write W N M": (*judge).toWrite, "open": (*judge).toOpen, "sing N": (*judge).toSing, "rite N": (*judge).toRite,
	} {
		text = strings.NewReplacer("W", "[^ ]+", "N", "(?:0|[1-9][0-9]{0,5})", "M", "(?:-|0|[1-9][0-9]{0,5})").Replace(text)
		l = append(l, pattern{regexp.MustCompile(`\A` + text + `\z`), do})
	}
	return l
}()

// reply returns the reply to a line.
func (j *judge) reply(line string) (reply string) {
	defer func() {
		if e, is := recover().(refusal); is {
			reply = "error " + strconv.Itoa(int(e))
		}
	}()
	for _, p := range patterns {
		if p.MatchString(line) {
			return p.do(j, strings.Split(line, " ")[1:])
		}
	}
	return "error 3"
}

// number returns the number that a word is.
func number(word string) int {
	n, err := strconv.Atoi(word)
	if err != nil {
		panic(err)
	}
	return n
}

func (j *judge) toDay(words []string) string {
	refuse(len(j.guests) > 0, api.ErrState)
	day := number(words[0])
	refuse(day < j.day || day > 1000, api.ErrRange)
	j.day = day
	return "ok"
}

// variants returns the variants by their names.
func (j *judge) variants() map[string]api.Variant {
	l := map[string]api.Variant{}
	for _, v := range j.h.Variants {
		l[v.Name] = v
	}
	return l
}

// isMember tells whether a word is the name of a member.
func (j *judge) isMember(word string) bool { return slices.Contains(j.members, word) }

func (j *judge) toJoin(words []string) string {
	word, teacher := words[0], words[1]
	refuse(!j.isMember(teacher), api.ErrMissing)
	refuse(!regexp.MustCompile(`\A[a-z]{1,8}\z`).MatchString(word), api.ErrForm)
	refuse(j.isMember(word), api.ErrExists)
	refuse(j.grade[teacher] < 3, api.ErrShort)
	refuse(len(j.members) == 20, api.ErrFull)
	j.members = append(j.members, word)
	j.teacher[word] = teacher
	return "ok"
}

func (j *judge) toRaise(words []string) string {
	word := words[0]
	refuse(!j.isMember(word), api.ErrMissing)
	refuse(j.teacher[word] == "", api.ErrState)
	refuse(j.grade[word] >= j.grade[j.teacher[word]], api.ErrClash)
	j.grade[word]++
	return "ok"
}

func (j *judge) toShow(words []string) string {
	word, teacher := words[0], j.teacher[words[0]]
	v, exists := j.variants()[words[1]]
	refuse(!j.isMember(word) || !exists, api.ErrMissing)
	refuse(teacher == "", api.ErrState)
	refuse(!j.shown[[2]string{teacher, v.Name}], api.ErrClash)
	refuse(j.grade[word] < v.Grade, api.ErrShort)
	refuse(j.shown[[2]string{word, v.Name}], api.ErrExists)
	for other, same := range j.teacher {
		refuse(v.Secret && same == teacher && j.shown[[2]string{other, v.Name}], api.ErrFull)
	}
	j.shown[[2]string{word, v.Name}] = true
	return "ok"
}

func (j *judge) toSplit(words []string) string {
	word := words[0]
	refuse(!j.isMember(word), api.ErrMissing)
	refuse(j.teacher[word] == "", api.ErrState)
	refuse(j.grade[word] < 5, api.ErrShort)
	delete(j.teacher, word)
	return "ok"
}

// line returns the names from a member up to its head.
func (j *judge) line(word string) []string {
	if teacher, has := j.teacher[word]; has {
		return append([]string{word}, j.line(teacher)...)
	}
	return []string{word}
}

func (j *judge) head(word string) string { return j.line(word)[len(j.line(word))-1] }

func (j *judge) toLine(words []string) string {
	refuse(!j.isMember(words[0]), api.ErrMissing)
	return strings.Join(j.line(words[0]), " ")
}

func (j *judge) toHold(words []string) string {
	_, exists := j.variants()[words[0]]
	refuse(!exists, api.ErrMissing)
	var l []string
	for _, word := range j.members {
		if j.shown[[2]string{word, words[0]}] {
			l = append(l, word)
		}
	}
	if len(l) == 0 {
		return "none"
	}
	return strings.Join(l, " ")
}

// orders returns all orders of some words, in lexicographic order of the places of the words.
func orders(words []string) [][]string {
	if len(words) == 0 {
		return [][]string{nil}
	}
	var l [][]string
	for i, first := range words {
		for _, others := range orders(slices.Delete(slices.Clone(words), i, i+1)) {
			l = append(l, append([]string{first}, others...))
		}
	}
	return l
}

// isRanked tells whether nobody sits before anyone with a greater grade; strangers is how many neighbours have unlike heads.
func (j *judge) isRanked(seats []string) bool {
	return slices.IsSortedFunc(seats, func(a, b string) int { return j.grade[b] - j.grade[a] })
}

func (j *judge) strangers(seats []string) int {
	count := 0
	for i := 1; i < len(seats); i++ {
		if j.head(seats[i-1]) != j.head(seats[i]) {
			count++
		}
	}
	return count
}

// seats returns some members by their seats.
func (j *judge) seats(words []string) []string {
	var best []string
	for _, order := range orders(slices.DeleteFunc(slices.Clone(j.members), func(word string) bool { return !slices.Contains(words, word) })) {
		if j.isRanked(order) && (best == nil || j.strangers(order) < j.strangers(best)) {
			best = order
		}
	}
	return best
}

// dealt returns the course of a gathering with this number.
func dealt(h api.House, gathering int) []int {
	var bags [4][]int
	var course []int
	drawn := 0
	for _, d := range h.Game.Deals {
		switch d.Kind {
		case api.DealMix:
			bags[d.Bag] = append(bags[d.Bag], slices.Repeat([]int{d.Wood}, d.Count)...)
		case api.DealPour:
			bags[d.Other], bags[d.Bag] = append(bags[d.Other], bags[d.Bag]...), nil
		case api.DealPlace:
			course = append(course, d.Wood)
		case api.DealAside, api.DealPass:
			for range d.Count {
				bag := bags[d.Bag]
				slices.Sort(bag)
				pick := h.Numbers[(7*gathering+drawn)%len(h.Numbers)] % len(bag)
				if d.Kind == api.DealPass {
					course = append(course, bag[pick])
				}
				bags[d.Bag] = slices.Delete(bag, pick, pick+1)
				drawn++
			}
		}
	}
	return course
}

func (j *judge) toGather(words []string) string {
	refuse(len(j.guests) > 0, api.ErrState)
	for _, word := range words {
		refuse(!j.isMember(word), api.ErrMissing)
	}
	for i, word := range words {
		refuse(slices.Contains(words[:i], word), api.ErrExists)
	}
	j.guests = j.seats(words)
	j.course = dealt(j.h, len(j.records))
	j.table = api.Table{Packets: len(j.course), State: api.TableOpen}
	for range words {
		j.table.Answers = append(j.table.Answers, slices.Repeat([]int{-1}, len(j.course)))
	}
	return "seats " + strings.Join(j.guests, " ")
}

// do does a deed at the table.
func (j *judge) do(d api.Deed) string {
	refuse(len(j.guests) == 0, api.ErrState)
	t, e := score.Do(j.table, d)
	refuse(e != api.OK, e)
	j.table = t
	return "ok"
}

// deed returns what does a deed of a kind.
func deed(kind int) func(*judge, []string) string {
	return func(j *judge, _ []string) string { return j.do(api.Deed{Kind: kind}) }
}

func (j *judge) toWrite(words []string) string {
	refuse(len(j.guests) == 0, api.ErrState)
	refuse(!slices.Contains(j.guests, words[0]), api.ErrMissing)
	d := api.Deed{Kind: api.DeedWrite, Guest: slices.Index(j.guests, words[0]), Packet: number(words[1]), Number: -1}
	if words[2] != "-" {
		d.Number = number(words[2])
	}
	return j.do(d)
}

// truth returns the partition of a course by its woods.
func truth(course []int) []int {
	var l []int
	next := 0
	for i, wood := range course {
		if before := slices.Index(course[:i], wood); before >= 0 {
			l = append(l, l[before])
			continue
		}
		l = append(l, next)
		next++
	}
	return l
}

// results returns what a record says of each seat.
func (r record) results() string {
	text := ""
	for seat, guest := range r.guests {
		text += " " + guest + " " + strconv.Itoa(r.points[seat]) + " " + strconv.Itoa(r.places[seat])
	}
	return text
}

func (j *judge) toOpen([]string) string {
	j.do(api.Deed{Kind: api.DeedOpen})
	r := record{day: j.day, guests: j.guests}
	scores, places, e := score.Rank(j.h.Scoring, truth(j.course), j.table.Answers)
	if e != api.OK {
		panic(e)
	}
	for seat, s := range scores {
		r.points, r.places = append(r.points, s.Points), append(r.places, places[seat])
	}
	j.records = append(j.records, r)
	j.guests, j.course, j.table = nil, nil, api.Table{}
	return "points" + r.results()
}

func (j *judge) toSing(words []string) string {
	l, e := hearth.Run(j.h.Kettle, j.h.Fire, j.h.Pours, number(words[0]))
	refuse(e != api.OK, e)
	singing, silent := false, false
	for warmth := l[len(l)-1].Lo; warmth <= l[len(l)-1].Hi; warmth++ {
		sings := warmth >= j.h.Kettle.Sing && warmth <= j.h.Kettle.Boil
		singing, silent = singing || sings, silent || !sings
	}
	switch {
	case !silent:
		return "sure"
	case !singing:
		return "never"
	}
	return "open"
}

// chosen returns the rite of a house with those acts that are done on a day, for guests of a rank.
func chosen(h api.House, day, rank int) api.Rite {
	r := copied(h).Rite
	r.Acts = nil
	for _, a := range h.Rite.Acts {
		if (a.Seasons == 0 || a.Seasons>>(day/90%4)%2 == 1) && a.Rank <= rank {
			a.Seasons, a.Rank = 0, 0
			r.Acts = append(r.Acts, a)
		}
	}
	return r
}

func (j *judge) toRite(words []string) string {
	rank := number(words[0])
	refuse(rank > 9, api.ErrRange)
	r := chosen(j.h, j.day, rank)
	_, _, e := rite.Run(r)
	refuse(e != api.OK, e)
	for act, a := range r.Acts {
		for _, kind := range r.Lapses {
			if kind == api.LapseHand && a.Kind == api.ActStep {
				continue
			}
			if _, e := rite.Mend(r, act, kind); e != api.OK {
				return "lapse " + strconv.Itoa(act) + " " + strconv.Itoa(kind)
			}
		}
	}
	return "firm"
}

// hall returns the hall.
func (j *judge) hall() api.Hall {
	at := func(words []string) []int {
		var l []int
		for _, word := range words {
			l = append(l, slices.Index(j.members, word))
		}
		return l
	}
	h := api.Hall{Day: j.day, Guests: at(j.guests), Course: j.course, Table: j.table}
	for _, word := range j.members {
		m := api.Member{Name: word, Teacher: slices.Index(j.members, j.teacher[word]), Grade: j.grade[word]}
		for bit, v := range j.h.Variants {
			if j.shown[[2]string{word, v.Name}] {
				m.Holds += 1 << bit
			}
		}
		h.Members = append(h.Members, m)
	}
	for _, r := range j.records {
		h.Records = append(h.Records, api.Record{Day: r.day, Guests: at(r.guests), Points: r.points, Places: r.places})
	}
	return h
}

// report returns the rows of the report.
func (j *judge) report() []string {
	rows := []string{"day " + strconv.Itoa(j.day)}
	for _, word := range j.members {
		row := "member " + word + " " + j.teacher[word]
		if j.teacher[word] == "" {
			row += "-"
		}
		row += " " + strconv.Itoa(j.grade[word])
		for _, v := range j.h.Variants {
			if j.shown[[2]string{word, v.Name}] {
				row += " " + v.Name
			}
		}
		rows = append(rows, row)
	}
	for _, r := range j.records {
		rows = append(rows, "game "+strconv.Itoa(r.day)+r.results())
	}
	return append(rows, "end")
}

// oneOf returns one of some words.
func oneOf(random *rand.Rand, words ...string) string { return words[random.IntN(len(words))] }

// someLine returns a line, which often is one that can be done now.
func (j *judge) someLine(random *rand.Rand) string {
	numeral := func(n int) string { return strconv.Itoa(random.IntN(n)) }
	member := oneOf(random, j.members...)
	if pupils := slices.Sorted(maps.Keys(j.teacher)); len(pupils) > 0 && random.IntN(2) == 0 {
		member = oneOf(random, pupils...)
	}
	variant := oneOf(random, append(slices.Sorted(maps.Keys(j.variants())), "moon")...)
	if random.IntN(16) == 0 {
		member = "zoe"
	}
	switch {
	case random.IntN(20) == 0:
		return oneOf(random, "", " ", "fuel", "day", "day 01", "pass 1", "open ", " open", "write "+member+" 0", "sing -", "gather", "show "+member, "line  "+member, "join "+strings.ToUpper(member)+" "+member)
	case len(j.guests) > 0 && random.IntN(3) > 0:
		return j.someDeed(random)
	case len(j.guests) == 0 && random.IntN(8) == 0:
		words := []string{"gather"}
		for _, i := range random.Perm(len(j.members))[:min(len(j.members), 1+random.IntN(5))] {
			words = append(words, j.members[i])
		}
		return strings.Join(words, " ")
	}
	return oneOf(random, "day "+strconv.Itoa(j.day+random.IntN(60)), "day "+numeral(j.day+1), "join "+name(random.IntN(26))+" "+member,
		"raise "+member, "raise "+member, "raise "+member, "raise "+member, "show "+member+" "+variant, "show "+member+" "+variant, "show "+member+" "+variant, "split "+member,
		"line "+member, "hold "+variant, "sing "+numeral(20), "rite "+numeral(11), j.someDeed(random), "gather "+member)
}

// someDeed returns a line for the table, which often is one that can be done now.
func (j *judge) someDeed(random *rand.Rand) string {
	guest := oneOf(random, append(slices.Clone(j.guests), j.members[0], oneOf(random, "zoe", j.members[0]))...)
	write := "write " + guest + " " + strconv.Itoa(random.IntN(j.table.Passed+1)) + " " + oneOf(random, "0", "1", "2", "-", "9")
	switch {
	case random.IntN(6) == 0:
		return oneOf(random, "pass", "pause", "resume", "close", "open")
	case j.table.State == api.TablePaused:
		return "resume"
	case j.table.State == api.TableClosed:
		return "open"
	case j.table.Passed == j.table.Packets:
		return oneOf(random, write, write, write, "close")
	}
	return oneOf(random, write, write, "pass")
}
