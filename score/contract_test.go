package score_test

import (
	"math"
	"regexp"
	"slices"
	"strconv"
	"strings"
	"testing"

	"aloeswood/api"
	"aloeswood/score"
)

// P3.1

// rules returns the chapter's scoring after a change.
func rules(change func(s *api.Scoring)) api.Scoring {
	s := example()
	change(&s)
	return s
}

// keyed returns the chapter's scoring with other keys.
func keyed(keys ...int) api.Scoring {
	return rules(func(s *api.Scoring) { s.Keys = keys })
}

// worth returns the fields of a scoring that are points, by their names.
func worth(s *api.Scoring) map[string]*int {
	return map[string]*int{"Packet": &s.Packet, "Pair": &s.Pair, "Whole": &s.Whole, "New": &s.New, "Loss": &s.Loss}
}

// wrongScorings are scorings that are not valid, with their first errors.
func wrongScorings() map[string]struct {
	s api.Scoring
	e api.Errno
} {
	type wrong = struct {
		s api.Scoring
		e api.Errno
	}
	l := map[string]wrong{
		"seven keys":                  {keyed(1, 2, 3, 4, 5, 6, 1), api.ErrFull},
		"seven keys that are none":    {keyed(make([]int, 7)...), api.ErrFull},
		"the key 0":                   {keyed(0), api.ErrKind},
		"the key 7":                   {keyed(7), api.ErrKind},
		"a key below 0":               {keyed(1, 2, math.MinInt), api.ErrKind},
		"a key far off":               {keyed(1, 2, math.MaxInt), api.ErrKind},
		"points twice":                {keyed(1, 1), api.ErrExists},
		"seat twice":                  {keyed(6, 1, 2, 6), api.ErrExists},
		"twice before a later key":    {keyed(2, 2, 9), api.ErrExists},
		"no key before one twice":     {keyed(2, 9, 2), api.ErrKind},
		"no key twice":                {keyed(9, 9), api.ErrKind},
		"a range before seven keys":   {rules(func(s *api.Scoring) { s.Loss, s.Keys = -1, make([]int, 7) }), api.ErrRange},
		"a range before a wrong key":  {rules(func(s *api.Scoring) { s.New, s.Keys = 1001, []int{9} }), api.ErrRange},
		"a range before points twice": {rules(func(s *api.Scoring) { s.Pair, s.Keys = -1, []int{1, 1} }), api.ErrRange},
	}
	for _, name := range []string{"Packet", "Pair", "Whole", "New", "Loss"} {
		for _, n := range []int{math.MinInt, -1, 1001, math.MaxInt} {
			l[name+" "+strconv.Itoa(n)] = wrong{rules(func(s *api.Scoring) { *worth(s)[name] = n }), api.ErrRange}
		}
	}
	return l
}

func TestScoringsThatAreNotValid(t *testing.T) {
	for name, c := range wrongScorings() {
		_, mark := score.Mark(c.s, nil, nil)
		_, _, rank := score.Rank(c.s, nil, make([][]int, 13))
		_, _, result := score.Result(c.s, nil, api.Table{})
		for function, e := range map[string]api.Errno{"Check": score.Check(c.s), "Mark": mark, "Rank": rank, "Result": result} {
			if e != c.e {
				t.Errorf("%s of %s: %v, want %v", function, name, e, c.e)
			}
		}
	}
}

func TestScoringsThatAreValid(t *testing.T) {
	most := api.Scoring{Packet: 1000, Pair: 1000, Whole: 1000, New: 1000, Loss: 1000, Keys: []int{6, 5, 4, 3, 2, 1}}
	for i, s := range []api.Scoring{example(), {}, most, keyed(), keyed(1), keyed(6), keyed(2, 1, 3)} {
		if e := score.Check(s); e != api.OK {
			t.Error(i, e)
		}
	}
	if x, e := score.Mark(most, []int{0, 1, 2, 3, 4, 5, 6, 7, 8}, []int{8, 7, 6, 5, 4, 3, 2, 1, 0}); x.Points != 9000+36000+1000+9000 || e != api.OK {
		t.Error(x, e)
	}
	if x, e := score.Mark(most, make([]int, 9), []int{8, 7, 6, 5, 4, 3, 2, 1, 0}); x.Points != 1000-8000 || e != api.OK {
		t.Error(x, e)
	}
}

// The chapter's examples, and edges that it names.
func TestMarks(t *testing.T) {
	for i, c := range []struct {
		truth, answer []int
		want          api.Score
	}{
		{abac(), []int{5, 3, 5, 0}, api.Score{Points: 36, Packets: 4, Pairs: 6, New: 2, Whole: 1, Start: 4, Honour: 3}},
		{abac(), []int{0, 0, 0, 1}, api.Score{Points: 13, Packets: 2, Wrong: 2, Pairs: 4, New: 1, Start: 1, Honour: 2}},
		{abac(), []int{0, -1, 0, -1}, api.Score{Points: 4, Packets: 2, Pairs: 1, Start: 1}},
		{abac(), []int{-1, -1, -1, -1}, api.Score{}},
		// What is not written is told alike with nothing, so the new ones are heard; and the packets behind it can be right.
		{abac(), []int{-1, 2, -1, 3}, api.Score{Points: 1 + 1 + 2 + 5 + 5, Packets: 2, Pairs: 1, New: 2}},
		{abac(), []int{4, -1, 4, 5}, api.Score{Points: 3 + 6 + 5, Packets: 3, Pairs: 3, New: 1, Start: 1}},
		{abac(), []int{-1, 2, 2, 3}, api.Score{Points: 2 + 4 + 5 - 1, Packets: 2, Wrong: 1, Pairs: 2, New: 1}},
		// The packet 3 is right, though a pair behind it, and one before, are wrong.
		{[]int{0, 1, 2, 3, 3}, []int{1, 1, 2, 3, 4}, api.Score{Points: 3 + 2*8 + 5 - 2, Packets: 3, Wrong: 2, Pairs: 8, New: 1, Start: 1, Honour: 1}},
		// Each of three packets has to be moved: no honour.
		{[]int{0, 0, 0, 0}, []int{0, 1, 2, 3}, api.Score{Points: 1 - 3, Packets: 1, Wrong: 3, Start: 1}},
		// Of a whole answer but for one packet there is no honour, and not the whole.
		{abac(), []int{5, 3, 5, -1}, api.Score{Points: 3 + 6 + 5, Packets: 3, Pairs: 3, New: 1, Start: 3}},
		{[]int{0}, []int{8}, api.Score{Points: 16, Packets: 1, New: 1, Whole: 1, Start: 1, Honour: 3}},
		{[]int{0}, []int{-1}, api.Score{}},
		{[]int{0, 0}, []int{8, 0}, api.Score{Packets: 1, Wrong: 1, Start: 1, Honour: 2}},
	} {
		if x, e := score.Mark(example(), c.truth, c.answer); x != c.want || e != api.OK {
			t.Error(i, x, e)
		}
	}
}

// All small answers, and some larger ones, are marked as the chapter says.
func TestMarksOfManyAnswers(t *testing.T) {
	scorings := []api.Scoring{example(), {Packet: 1}, {Pair: 1}, {Whole: 1}, {New: 1}, {Loss: 1}, {Packet: 7, Pair: 11, Whole: 13, New: 17, Loss: 19}}
	for i, c := range trials(t) {
		s := scorings[i%len(scorings)]
		if x, e := score.Mark(s, c.truth, c.answer); x != c.score(s) || e != api.OK {
			t.Fatal(s, c, x, e, c.score(s))
		}
	}
}

// wrongTruths are truths that are not valid.
func wrongTruths() map[api.Errno][]int {
	return map[api.Errno][]int{api.ErrShort: nil, api.ErrFull: make([]int, 10), api.ErrRange: {0, 9}, api.ErrOrder: {1}}
}

// wrongAnswers are answers about four packets that are not valid, with their first errors.
func wrongAnswers() map[api.Errno][][]int {
	return map[api.Errno][][]int{
		api.ErrForm:  {nil, {0}, {0, 1, 2}, {0, 1, 2, 3, 4}, {9, 9, 9}, {-2, 0, 0, 0, 0}, make([]int, 9)},
		api.ErrRange: {{0, 1, 2, 9}, {-2, 1, 2, 3}, {0, math.MinInt, 0, 0}, {0, 0, math.MaxInt, 0}},
	}
}

func TestWhatCannotBeMarked(t *testing.T) {
	for want, truth := range wrongTruths() {
		if x, e := score.Mark(example(), truth, []int{-2, 9}); x != (api.Score{}) || e != want {
			t.Error(truth, x, e)
		}
		if x, places, e := score.Rank(example(), truth, make([][]int, 13)); len(x)+len(places) > 0 || e != want {
			t.Error(truth, x, places, e)
		}
		if x, places, e := score.Result(example(), truth, api.Table{}); len(x)+len(places) > 0 || e != want {
			t.Error(truth, x, places, e)
		}
	}
	for want, answers := range wrongAnswers() {
		for _, answer := range answers {
			if x, e := score.Mark(example(), abac(), answer); x != (api.Score{}) || e != want {
				t.Error(answer, x, e)
			}
			for _, beside := range [][][]int{{answer}, {abac(), answer}, {answer, abac()}} {
				if x, places, e := score.Rank(example(), abac(), beside); len(x)+len(places) > 0 || e != want {
					t.Error(beside, x, places, e)
				}
			}
		}
	}
	for i, c := range []struct {
		answers [][]int
		e       api.Errno
	}{
		{make([][]int, 13), api.ErrFull},
		{slices.Repeat([][]int{abac()}, 13), api.ErrFull},
		{make([][]int, 12), api.ErrForm},
		// The first answer that has an error counts.
		{[][]int{abac(), {0, 0, 0, 9}, nil}, api.ErrRange},
		{[][]int{abac(), nil, {0, 0, 0, 9}}, api.ErrForm},
	} {
		if x, places, e := score.Rank(example(), abac(), c.answers); len(x)+len(places) > 0 || e != c.e {
			t.Error(i, x, places, e)
		}
	}
}

// five are answers of which each key but the seat makes another order.
func five() [][]int {
	return [][]int{{0, 0, 0, 1, 0}, {0, 1, 1, -1, -1}, {-1, 0, 1, 1, 2}, {0, 1, 2, 1, 3}, {3, 3, 3, 3, 3}}
}

func TestPlacesByEachKey(t *testing.T) {
	truth := []int{0, 1, 1, 2, 0}
	s := api.Scoring{Packet: 3, Pair: 1, New: 20, Loss: 2}
	scores, _ := ranked(t, s, truth, five())
	for i, want := range []api.Score{
		{Points: 6 + 6 + 20 - 6, Packets: 2, Wrong: 3, Pairs: 6, New: 1, Start: 1, Honour: 1},
		{Points: 9 + 3, Packets: 3, Pairs: 3, Start: 3},
		{Points: 6 + 4 - 4, Packets: 2, Wrong: 2, Pairs: 4},
		{Points: 6 + 7 - 6, Packets: 2, Wrong: 3, Pairs: 7, Start: 2, Honour: 1},
		{Points: 3 + 2 - 8, Packets: 1, Wrong: 4, Pairs: 2, Start: 1},
	} {
		if scores[i] != want || scores[i] != (trial{truth, five()[i]}).score(s) {
			t.Error(i, scores[i])
		}
	}
	for i, c := range []struct{ keys, places []int }{
		{nil, []int{1, 1, 1, 1, 1}},
		{[]int{api.KeyPoints}, []int{1, 2, 4, 3, 5}},
		{[]int{api.KeyPackets}, []int{2, 1, 2, 2, 5}},
		{[]int{api.KeyPairs}, []int{2, 4, 3, 1, 5}},
		{[]int{api.KeyHonour}, []int{1, 3, 3, 1, 3}},
		{[]int{api.KeyStart}, []int{3, 1, 5, 2, 3}},
		{[]int{api.KeySeat}, []int{1, 2, 3, 4, 5}},
		{[]int{api.KeySeat, api.KeyPoints}, []int{1, 2, 3, 4, 5}},
		{[]int{api.KeyPackets, api.KeySeat}, []int{2, 1, 3, 4, 5}},
		{[]int{api.KeyPackets, api.KeyPairs}, []int{3, 1, 4, 2, 5}},
		{[]int{api.KeyHonour, api.KeyStart}, []int{2, 3, 5, 1, 4}},
		{[]int{api.KeyHonour, api.KeyPackets, api.KeyStart}, []int{2, 3, 4, 1, 5}},
	} {
		s.Keys = c.keys
		if _, places := ranked(t, s, truth, five()); !slices.Equal(places, c.places) {
			t.Error(i, places)
		}
	}
}

// The example's row for Rank, and the fewest and the most guests.
func TestPlaces(t *testing.T) {
	three := [][]int{{0, 0, 0, 1}, {5, 3, 5, 0}, {1, 1, 1, 0}}
	for i, c := range []struct {
		s       api.Scoring
		answers [][]int
		places  []int
	}{
		{example(), three, []int{2, 1, 3}},
		{keyed(api.KeyPoints, api.KeyPairs), three, []int{2, 1, 2}},
		{example(), nil, nil},
		{example(), [][]int{}, nil},
		{example(), three[:1], []int{1}},
		{example(), slices.Repeat(three, 4), []int{5, 1, 6, 7, 2, 8, 9, 3, 10, 11, 4, 12}},
		{keyed(api.KeyPoints), slices.Repeat(three, 4), []int{5, 1, 5, 5, 1, 5, 5, 1, 5, 5, 1, 5}},
	} {
		scores, places := ranked(t, c.s, abac(), c.answers)
		if !slices.Equal(places, c.places) {
			t.Error(i, places)
		}
		for guest, answer := range c.answers {
			if scores[guest] != must[api.Score](t)(score.Mark(c.s, abac(), answer)) {
				t.Error(i, guest, scores)
			}
		}
	}
}

// P3.2

// faulty is a table that is not valid, and its first error.
type faulty struct {
	t api.Table
	e api.Errno
}

// sized returns the chapter's table with other numbers.
func sized(packets, passed, state int, answers ...[]int) api.Table {
	return api.Table{Packets: packets, Passed: passed, State: state, Answers: answers}
}

// wrongTables are tables that are not valid.
func wrongTables() map[string]faulty {
	empty, wrong, low := []int{-1, -1}, []int{9, 9}, math.MinInt
	return map[string]faulty{
		"nothing":                           {api.Table{}, api.ErrRange},
		"no packets":                        {sized(0, 0, 1, nil), api.ErrRange},
		"10 packets":                        {sized(10, 0, 1, slices.Repeat([]int{-1}, 10)), api.ErrRange},
		"packets below 0":                   {sized(low, low, 1, nil), api.ErrRange},
		"packets far off":                   {sized(math.MaxInt, 0, 1, nil), api.ErrRange},
		"one more passed":                   {sized(2, 3, 9, empty), api.ErrRange},
		"passed below 0":                    {sized(2, -1, 9, empty), api.ErrRange},
		"passed far below 0":                {sized(2, low, 1, empty), api.ErrRange},
		"passed far off":                    {sized(2, math.MaxInt, 1, empty), api.ErrRange},
		"the state 0":                       {sized(2, 0, 0), api.ErrKind},
		"the state 5":                       {sized(2, 0, 5, wrong), api.ErrKind},
		"a state below 0":                   {sized(2, 0, low, empty), api.ErrKind},
		"a state far off":                   {sized(2, 2, math.MaxInt, empty), api.ErrKind},
		"no answers":                        {sized(2, 0, 3), api.ErrShort},
		"13 answers":                        {sized(2, 0, 3, slices.Repeat([][]int{empty}, 13)...), api.ErrFull},
		"13 answers without numbers":        {sized(2, 0, 3, make([][]int, 13)...), api.ErrFull},
		"an answer without numbers":         {sized(2, 0, 3, empty, nil), api.ErrForm},
		"an answer that is too short":       {sized(2, 2, 1, empty, []int{9}), api.ErrForm},
		"an answer that is too long":        {sized(2, 0, 1, []int{-1, -1, -1}, wrong), api.ErrForm},
		"a number above 8":                  {sized(2, 2, 1, []int{8, 9}), api.ErrRange},
		"a number below -1":                 {sized(2, 2, 1, []int{-1, -2}), api.ErrRange},
		"a number far below -1":             {sized(2, 2, 1, []int{low, 0}), api.ErrRange},
		"a range before what is late":       {sized(2, 0, 1, []int{0, 9}), api.ErrRange},
		"a late range":                      {sized(2, 0, 1, []int{-1, -2}), api.ErrRange},
		"late":                              {sized(2, 0, 1, []int{0, -1}), api.ErrLate},
		"late behind what was passed":       {sized(2, 1, 2, []int{0, 0}), api.ErrLate},
		"late for the last one":             {sized(2, 1, 1, empty, []int{-1, 8}), api.ErrLate},
		"late before a later form":          {sized(2, 1, 1, []int{-1, 8}, nil), api.ErrLate},
		"late before a later range":         {sized(2, 1, 1, []int{-1, 8}, wrong), api.ErrLate},
		"a form before a later range":       {sized(2, 1, 1, []int{8}, wrong), api.ErrForm},
		"a range before a later form":       {sized(2, 1, 1, wrong, []int{8}), api.ErrRange},
		"late before closed too early":      {sized(2, 1, 3, empty, []int{-1, 8}), api.ErrLate},
		"closed too early":                  {sized(2, 1, 3, empty), api.ErrState},
		"shown too early":                   {sized(2, 0, 4, empty), api.ErrState},
		"a form before shown too early":     {sized(2, 0, 4, empty, nil), api.ErrForm},
		"nine packets, closed one too soon": {sized(9, 8, 3, slices.Repeat([]int{-1}, 9)), api.ErrState},
	}
}

func TestTablesThatAreNotValid(t *testing.T) {
	for name, c := range wrongTables() {
		said := map[string]api.Errno{"CheckTable": score.CheckTable(c.t)}
		// What comes beside the table is wrong, too.
		_, said["Do"] = score.Do(c.t, api.Deed{})
		_, _, said["Run"] = score.Run(c.t, make([]api.Deed, 201))
		_, said["Save"] = score.Save(c.t)
		_, _, said["Result"] = score.Result(example(), []int{0}, c.t)
		for function, e := range said {
			if e != c.e {
				t.Errorf("%s of %s: %v, want %v", function, name, e, c.e)
			}
		}
	}
}

// rightTables are tables that are valid.
func rightTables() []api.Table {
	return []api.Table{
		fresh(1, 1), fresh(2, 2), fresh(9, 12), shown(), at(1, api.TablePaused), at(0, api.TablePaused),
		at(2, api.TableClosed), at(2, api.TableShown), at(2, api.TableOpen, []int{8, 8}, []int{0, -1}), at(1, api.TableOpen, []int{8, -1}),
		sized(9, 9, 4, slices.Repeat([][]int{{8, 7, 6, 5, 4, 3, 2, 1, 0}}, 12)...),
	}
}

func TestTablesThatAreValid(t *testing.T) {
	for i, table := range rightTables() {
		if e := score.CheckTable(table); e != api.OK {
			t.Error(i, e)
		}
	}
}

// step is a deed at a table, and what Do returns.
type step struct {
	t    api.Table
	d    api.Deed
	want api.Table
	e    api.Errno
}

// steps are deeds that can be done, and ones that cannot.
func steps() []step {
	const open, paused, closed, showing = api.TableOpen, api.TablePaused, api.TableClosed, api.TableShown
	one := []int{-1, -1}
	l := []step{
		{at(0, open), pass(), at(1, open), api.OK},
		{at(1, open, []int{4, -1}, one), pass(), at(2, open, []int{4, -1}, one), api.OK},
		{at(2, open), pass(), api.Table{}, api.ErrFull},
		{at(1, open), write(1, 0, 8), at(1, open, one, []int{8, -1}), api.OK},
		{at(1, open), write(0, 0, 0), at(1, open, []int{0, -1}, one), api.OK},
		{at(2, open), write(0, 1, 5), at(2, open, []int{-1, 5}, one), api.OK},
		{at(2, open, []int{1, 2}, []int{3, 4}), write(0, 1, -1), at(2, open, []int{1, -1}, []int{3, 4}), api.OK},
		{at(2, open, []int{1, 2}, []int{3, 4}), write(1, 0, 3), at(2, open, []int{1, 2}, []int{3, 4}), api.OK},
		{at(0, open), write(0, 0, 0), api.Table{}, api.ErrLate},
		{at(1, open), write(0, 1, 0), api.Table{}, api.ErrLate},
		{at(1, open), write(0, 1, -1), api.Table{}, api.ErrLate},
		{at(1, open), write(0, 1, 9), api.Table{}, api.ErrLate},
		{at(1, open), write(0, 0, 9), api.Table{}, api.ErrRange},
		{at(1, open), write(0, 0, -2), api.Table{}, api.ErrRange},
		{at(1, open), write(0, 0, math.MinInt), api.Table{}, api.ErrRange},
		{at(1, open), write(0, 0, math.MaxInt), api.Table{}, api.ErrRange},
		{at(1, open), write(2, 1, 9), api.Table{}, api.ErrMissing},
		{at(1, open), write(2, 0, 0), api.Table{}, api.ErrMissing},
		{at(1, open), write(-1, 0, 0), api.Table{}, api.ErrMissing},
		{at(1, open), write(math.MaxInt, 0, 0), api.Table{}, api.ErrMissing},
		{at(1, open), write(0, 2, 9), api.Table{}, api.ErrMissing},
		{at(1, open), write(0, -1, 0), api.Table{}, api.ErrMissing},
		{at(2, open), write(0, math.MinInt, 0), api.Table{}, api.ErrMissing},
		{at(1, open), pause(), at(1, paused), api.OK},
		{at(1, paused, []int{4, -1}, one), resume(), at(1, open, []int{4, -1}, one), api.OK},
		{at(2, open), closing(), at(2, closed), api.OK},
		{at(1, open), closing(), api.Table{}, api.ErrShort},
		{at(2, closed, []int{4, -1}, one), opening(), at(2, showing, []int{4, -1}, one), api.OK},
		// The fields that a kind does not name do not count.
		{at(0, open), api.Deed{Kind: api.DeedPass, Guest: -1, Packet: 99, Number: 99}, at(1, open), api.OK},
	}
	for _, kind := range []int{0, 7, -1, math.MinInt, math.MaxInt} {
		for _, state := range []int{open, paused, closed, showing} {
			l = append(l, step{at(2, state), api.Deed{Kind: kind, Guest: -1}, api.Table{}, api.ErrKind})
		}
	}
	done := map[int]api.Deed{open: pass(), paused: resume(), closed: opening()}
	for _, d := range []api.Deed{pass(), write(-1, -1, 9), pause(), resume(), closing(), opening()} {
		for _, state := range []int{open, paused, closed, showing} {
			isOpen := state == open && d.Kind != api.DeedResume && d.Kind != api.DeedOpen
			if !isOpen && d != done[state] {
				l = append(l, step{at(2, state), d, api.Table{}, api.ErrState})
			}
			if !isOpen && state <= paused && d != done[state] {
				l = append(l, step{at(1, state), d, api.Table{}, api.ErrState})
			}
		}
	}
	return l
}

func TestDeeds(t *testing.T) {
	for i, c := range steps() {
		given := copied(c.t)
		if x, e := score.Do(given, c.d); e != c.e || !same(x, c.want) || !same(given, c.t) {
			t.Error(i, c.t, c.d, x, e)
		}
	}
}

// P3.3

// The example's row for Run, and for Result.
func TestRun(t *testing.T) {
	deeds := []api.Deed{pass(), write(0, 0, 3), pause(), pass(), resume(), pass(), write(1, 1, 0), closing(), opening()}
	after, returned := play{fresh(2, 2), deeds}.run(t)
	if !same(after, shown()) || !slices.Equal(returned, []api.Errno{0, 0, 0, api.ErrState, 0, 0, 0, 0, 0}) {
		t.Error(after, returned)
	}
	scores, places, e := score.Result(example(), []int{0, 1}, after)
	if e != api.OK || !slices.Equal(places, []int{1, 2}) || !slices.Equal(scores, []api.Score{{Points: 6, Packets: 1, New: 1, Start: 1}, {Points: 6, Packets: 1, New: 1}}) {
		t.Error(scores, places, e)
	}
}

// What each deed does, or refuses, it does within many of them, too.
func TestRunReturnsWhatDoReturns(t *testing.T) {
	for i, c := range steps() {
		want := c.want
		if c.e != api.OK {
			want = c.t
		}
		if after, returned := (play{c.t, []api.Deed{c.d}}).run(t); !same(after, want) || !slices.Equal(returned, []api.Errno{c.e}) {
			t.Error(i, after, returned)
		}
	}
	for _, p := range plays(300) {
		after, returned := p.run(t)
		table := p.t
		for i, d := range p.deeds {
			next, e := score.Do(table, d)
			if e != returned[i] {
				t.Fatal(p, i, e, returned[i])
			}
			if e == api.OK {
				table = next
			}
		}
		if !same(table, after) {
			t.Fatal(p, table, after)
		}
	}
}

func TestRunTakesUpToTheMostDeeds(t *testing.T) {
	for _, deeds := range [][]api.Deed{nil, {}} {
		if after, returned := (play{fresh(2, 2), deeds}).run(t); !same(after, fresh(2, 2)) || len(returned) != 0 {
			t.Error(after, returned)
		}
	}
	deeds := append(make([]api.Deed, 199), pass())
	if after, returned := (play{fresh(2, 2), deeds}).run(t); !same(after, at(1, api.TableOpen)) || returned[198] != api.ErrKind || returned[199] != api.OK {
		t.Error(after, returned)
	}
	if after, returned, e := score.Run(fresh(2, 2), append(deeds, pass())); e != api.ErrFull || !isZero(after) || len(returned) > 0 {
		t.Error(after, returned, e)
	}
}

func TestResultRefuses(t *testing.T) {
	for i, c := range []struct {
		truth []int
		t     api.Table
		e     api.Errno
	}{
		{[]int{0, 1, 2}, shown(), api.ErrForm},
		{[]int{0}, shown(), api.ErrForm},
		{[]int{0}, at(0, api.TableOpen), api.ErrForm},
		{[]int{0, 1}, at(0, api.TableOpen), api.ErrState},
		{[]int{0, 1}, at(2, api.TableOpen), api.ErrState},
		{[]int{0, 1}, at(2, api.TablePaused), api.ErrState},
		{[]int{0, 1}, at(2, api.TableClosed), api.ErrState},
	} {
		if scores, places, e := score.Result(example(), c.truth, c.t); e != c.e || len(scores)+len(places) > 0 {
			t.Error(i, scores, places, e)
		}
	}
}

func TestResultIsRank(t *testing.T) {
	for _, p := range plays(200) {
		after, _ := p.run(t)
		if after.State != api.TableShown {
			continue
		}
		for _, truth := range [][]int{make([]int, after.Packets), abac()} {
			if len(truth) != after.Packets {
				continue
			}
			scores, places, e := score.Result(example(), truth, after)
			x, y := ranked(t, example(), truth, after.Answers)
			if e != api.OK || !slices.Equal(scores, x) || !slices.Equal(places, y) {
				t.Fatal(truth, after, scores, places, e)
			}
		}
	}
}

// P3.4

func TestSave(t *testing.T) {
	for i, c := range []struct {
		t    api.Table
		text string
	}{
		{shown(), "table 2 2 shown\nguest 3 -\nguest - 0\nend 2\n"},
		{fresh(1, 1), "table 1 0 open\nguest -\nend 1\n"},
		{at(1, api.TablePaused, []int{8, -1}, []int{0, -1}), "table 2 1 paused\nguest 8 -\nguest 0 -\nend 2\n"},
		{at(2, api.TableClosed, []int{8, 7}), "table 2 2 closed\nguest 8 7\nend 1\n"},
		{fresh(9, 12), "table 9 0 open\n" + strings.Repeat("guest - - - - - - - - -\n", 12) + "end 12\n"},
	} {
		if text, e := score.Save(c.t); text != c.text || e != api.OK {
			t.Errorf("%v %q %v", i, text, e)
		}
		if back, row, e := score.Load(c.text); !same(back, c.t) || row != 0 || e != api.OK {
			t.Error(i, back, row, e)
		}
	}
}

// head and tail are the first and the last row of a saved table of one packet and one guest.
const head, tail = "table 1 0 open\n", "end 1\n"

// wrongTexts are strings that are no saved tables, each with its row and its error.
func wrongTexts() map[string]struct {
	row int
	e   api.Errno
} {
	type wrong = struct {
		row int
		e   api.Errno
	}
	l := map[string]wrong{
		"":                                                  {1, api.ErrForm},
		head:                                                {2, api.ErrForm},
		"table 1 0 open":                                    {1, api.ErrForm},
		head + "guest -\n":                                  {3, api.ErrForm},
		head + "guest -":                                    {2, api.ErrForm},
		head + "guest -\nend 1":                             {3, api.ErrForm},
		head + "guest -\nend 2":                             {3, api.ErrForm},
		head + "\nguest -\nend 1\n":                         {2, api.ErrForm},
		head + "guest -\nend 1\n\n":                         {4, api.ErrForm},
		head + "guest -\nend 2\n\n":                         {4, api.ErrForm},
		head + "guest 9999\nend 1\nx":                       {4, api.ErrForm},
		head + "guest -\nend 1\nend 1\n":                    {4, api.ErrForm},
		head + "guest -\n" + head + tail:                    {3, api.ErrForm},
		"guest -\nend 1\n":                                  {1, api.ErrForm},
		"end 0\n":                                           {1, api.ErrForm},
		"end 0\nx":                                          {1, api.ErrForm},
		"end 0\n" + head + tail:                             {1, api.ErrForm},
		"end 0":                                             {1, api.ErrForm},
		head + tail + "x":                                   {3, api.ErrForm},
		head + "guest -\nend 1\nguest -\n":                  {4, api.ErrForm},
		head + "guest -\nend 1\nend x\n":                    {4, api.ErrForm},
		head + "guest -\nend 2\n":                           {3, api.ErrClash},
		head + "guest -\nend 0\n":                           {3, api.ErrClash},
		head + "guest -\nend 9999\n":                        {3, api.ErrClash},
		head + "guest 9999\nend 2\n":                        {3, api.ErrClash},
		"table 0 9 shown\nend 1\n":                          {2, api.ErrClash},
		head + "end 0\n":                                    {0, api.ErrShort},
		head + "guest\nend 1\n":                             {0, api.ErrForm},
		head + "guest - -\nend 1\n":                         {0, api.ErrForm},
		head + "guest 0\nend 1\n":                           {0, api.ErrLate},
		head + "guest 9\nend 1\n":                           {0, api.ErrRange},
		head + "guest 9999\nend 1\n":                        {0, api.ErrRange},
		"table 0 0 open\nguest\nend 1\n":                    {0, api.ErrRange},
		"table 1 2 open\nguest -\nend 1\n":                  {0, api.ErrRange},
		"table 9999 9999 open\nend 0\n":                     {0, api.ErrRange},
		"table 1 0 closed\nguest -\nend 1\n":                {0, api.ErrState},
		head + strings.Repeat("guest -\n", 13) + "end 13\n": {0, api.ErrFull},
		head + "guest" + strings.Repeat(" -", 900) + "\nend 1\n":  {0, api.ErrForm},
		strings.Repeat("x", 2000):                                 {1, api.ErrForm},
		strings.Repeat("x", 2001):                                 {0, api.ErrLong},
		strings.Repeat("\n", 2001):                                {0, api.ErrLong},
		head + "guest" + strings.Repeat(" -", 1000) + "\nend 1\n": {0, api.ErrLong},
	}
	for _, row := range []string{"table", "table 1 0", "table 1 0 open open", "table 1 open", "Table 1 0 open", "table 1 0 Open", "table 1 0 opened", "table 1 0 1", "table 1 0 -", "table 1 0 ", "table  1 0 open", " table 1 0 open", "table 1 0 open ", "table 01 0 open", "table 1 00 open", "table -1 0 open", "table 1 -0 open", "table +1 0 open", "table - 0 open", "table 1 - open", "table 10000 0 open", "table 1 00000 open", "table 1 10000 open", "table 1 x open", "table 1 0 open\r", "table\t1 0 open", "", "guest", "\x00"} {
		l[row+"\nguest -\nend 1\n"] = wrong{1, api.ErrForm}
	}
	for _, row := range []string{"guest ", "guest  -", "guest - ", " guest -", "guest --", "guest -1", "guest +1", "guest 01", "guest 00", "guest 10000", "guest x", "guest - x", "guest 0 01", "guest ٣", "guests -", "Guest -", "guest-", "host -", "table 1 0 open", "-", "1", " ", "guest -\r"} {
		l[head+row+"\nend 1\n"] = wrong{2, api.ErrForm}
	}
	for _, row := range []string{"end", "end ", "end 01", "end -1", "end -", "end +1", "end  1", "end 1 ", " end 1", "end 1 1", "end x", "end 10000", "End 1", "ends 1", "end1"} {
		l[head+"guest -\n"+row+"\n"] = wrong{3, api.ErrForm}
	}
	return l
}

func TestTextsThatAreNotValid(t *testing.T) {
	for text, c := range wrongTexts() {
		if table, row, e := score.Load(text); !isZero(table) || row != c.row || e != c.e {
			t.Errorf("%.60q: %v %v %v, want %v %v", text, table, row, e, c.row, c.e)
		}
	}
}

// A text may be as long as the longest one.
func TestTextsOfAnyLength(t *testing.T) {
	for length := len(head + "guest -\nend 1\n"); length <= api.MaxSaved+1; length++ {
		text := head + "guest -\nend 1\n"
		text += strings.Repeat("x", length-len(text))
		row, want := 4, api.ErrForm
		switch {
		case length > api.MaxSaved:
			row, want = 0, api.ErrLong
		case !strings.HasSuffix(text, "x"):
			row, want = 0, api.OK
		}
		if _, got, e := score.Load(text); got != row || e != want {
			t.Fatal(length, got, e)
		}
	}
}

// loaded is what Load has to return for at most 2,000 bytes, by patterns for the rows.
func loaded(text string) (t api.Table, row int, e api.Errno) {
	const number = `(0|[1-9][0-9]{0,3})`
	first := regexp.MustCompile(`\Atable ` + number + ` ` + number + ` (open|paused|closed|shown)\n\z`)
	guest := regexp.MustCompile(`\Aguest(?: (?:-|` + number + `))*\n\z`)
	last := regexp.MustCompile(`\Aend ` + number + `\n\z`)
	value := func(s string) int { n, _ := strconv.Atoi(s); return n }
	for i, line := range strings.SplitAfter(text, "\n") {
		switch {
		case i == 0 && first.MatchString(line):
			m := first.FindStringSubmatch(line)
			t.Packets, t.Passed = value(m[1]), value(m[2])
			t.State = 1 + slices.Index([]string{"open", "paused", "closed", "shown"}, m[3])
		case i > 0 && row == 0 && guest.MatchString(line):
			answer := []int{}
			for _, word := range strings.Fields(line)[1:] {
				if word == "-" {
					answer = append(answer, -1)
				} else {
					answer = append(answer, value(word))
				}
			}
			t.Answers = append(t.Answers, answer)
		case i > 0 && row == 0 && last.MatchString(line):
			row = i + 1
			if value(last.FindStringSubmatch(line)[1]) != len(t.Answers) {
				e = api.ErrClash
			}
		case row > 0 && line == "":
			// Nothing stands behind the row "end".
		default:
			return api.Table{}, i + 1, api.ErrForm
		}
	}
	if e == api.ErrClash {
		return api.Table{}, row, e
	}
	if e = score.CheckTable(t); e != api.OK {
		return api.Table{}, 0, e
	}
	return t, 0, api.OK
}

// edits returns all texts that come of one by a change, an insertion or a deletion of one byte.
func edits(text string) []string {
	var l []string
	for i := range len(text) + 1 {
		for _, b := range []string{" ", "\n", "-", "0", "1", "2", "9", "e", "x", "\x00", "\xff"} {
			l = append(l, text[:i]+b+text[i:])
			if i < len(text) {
				l = append(l, text[:i]+b+text[i+1:])
			}
		}
		if i < len(text) {
			l = append(l, text[:i]+text[i+1:])
		}
		l = append(l, text[:i], text[i:])
	}
	return l
}

// Texts that are nearly saved tables are loaded, or refused, as the chapter says.
func TestTextsThatAreNearlyRight(t *testing.T) {
	taken := 0
	for _, text := range []string{must[string](t)(score.Save(shown())), "table 2 1 paused\nguest 8 -\nguest 1 -\nguest - -\nend 3\n", "table 1 0 closed\nguest -\nend 1\n", head + "guest\nend 1\n"} {
		for _, edited := range edits(text) {
			got, row, e := score.Load(edited)
			want, wantRow, wantE := loaded(edited)
			if !same(got, want) || row != wantRow || e != wantE {
				t.Fatalf("%q: %v %v %v, want %v %v %v", edited, got, row, e, want, wantRow, wantE)
			}
			if e == api.OK {
				taken++
			}
		}
	}
	if taken < 20 {
		t.Error(taken)
	}
}
