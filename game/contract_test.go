package game_test

import (
	"math"
	"slices"
	"strings"
	"testing"

	"aloeswood/api"
	"aloeswood/game"
)

// P2.1

// changed returns the chapter's game after a change.
func changed(change func(g *api.Game)) api.Game {
	g := example()
	change(&g)
	return g
}

// fault is a game that is not valid, and its first error.
type fault struct {
	g api.Game
	e api.Errno
}

// wrongWoods are games with errors in their woods.
func wrongWoods() map[string]fault {
	return map[string]fault{
		"nothing":                        {api.Game{}, api.ErrShort},
		"no woods":                       {with(0, place(0)), api.ErrShort},
		"seven woods":                    {with(7, place(0)), api.ErrFull},
		"seven woods without names":      {api.Game{Woods: make([]api.Wood, 7)}, api.ErrFull},
		"no name":                        {changed(func(g *api.Game) { g.Woods[1].Name = "" }), api.ErrForm},
		"a name of nine letters":         {changed(func(g *api.Game) { g.Woods[1].Name = "abcdefghi" }), api.ErrForm},
		"a capital letter":               {changed(func(g *api.Game) { g.Woods[0].Name = "aB" }), api.ErrForm},
		"a blank":                        {changed(func(g *api.Game) { g.Woods[0].Name = "a b" }), api.ErrForm},
		"before a":                       {changed(func(g *api.Game) { g.Woods[0].Name = "a`" }), api.ErrForm},
		"behind z":                       {changed(func(g *api.Game) { g.Woods[0].Name = "{" }), api.ErrForm},
		"no letter of ours":              {changed(func(g *api.Game) { g.Woods[0].Name = "é" }), api.ErrForm},
		"a name twice":                   {changed(func(g *api.Game) { g.Woods[2].Name = "a" }), api.ErrExists},
		"a family below 0":               {changed(func(g *api.Game) { g.Woods[2].Family = -1 }), api.ErrRange},
		"a family above 9":               {changed(func(g *api.Game) { g.Woods[2].Family = 10 }), api.ErrRange},
		"the name before the family":     {changed(func(g *api.Game) { g.Woods[1] = api.Wood{Name: "", Family: 10} }), api.ErrForm},
		"twice before the family":        {changed(func(g *api.Game) { g.Woods[1] = api.Wood{Name: "a", Family: 10} }), api.ErrExists},
		"a family before a later name":   {changed(func(g *api.Game) { g.Woods[0].Family, g.Woods[1].Name = 10, "" }), api.ErrRange},
		"twice before a later name":      {changed(func(g *api.Game) { g.Woods[1].Name, g.Woods[2].Name = "a", "" }), api.ErrExists},
		"a wood before all deals":        {changed(func(g *api.Game) { g.Woods[2].Family, g.Deals = 10, make([]api.Deal, 25) }), api.ErrRange},
		"a wood before the lack of them": {changed(func(g *api.Game) { g.Woods[2].Family, g.Deals = 10, nil }), api.ErrRange},
	}
}

// wrongDeals are games with errors in their deals.
func wrongDeals() map[string]fault {
	const far, low = math.MaxInt, math.MinInt
	return map[string]fault{
		"25 deals":                    {with(1, slices.Repeat([]api.Deal{pour(0, 1)}, 25)...), api.ErrFull},
		"25 deals without kinds":      {with(1, make([]api.Deal, 25)...), api.ErrFull},
		"the kind 0":                  {with(1, api.Deal{}), api.ErrKind},
		"the kind 7":                  {with(1, api.Deal{Kind: 7}), api.ErrKind},
		"a kind below 0":              {with(1, api.Deal{Kind: -1, Bag: 9}), api.ErrKind},
		"a kind behind an error":      {with(1, place(1), api.Deal{}), api.ErrMissing},
		"a kind before an error":      {with(1, api.Deal{}, place(1)), api.ErrKind},
		"a trial of no wood":          {with(3, trial(3)), api.ErrMissing},
		"a trial below 0":             {with(3, trial(-1)), api.ErrMissing},
		"a trial far off":             {with(3, trial(far)), api.ErrMissing},
		"a trial twice":               {with(3, trial(1), trial(0), trial(1)), api.ErrExists},
		"mixed into the bag 4":        {with(1, mix(4, 1, 0)), api.ErrRange},
		"mixed into the bag -1":       {with(1, mix(-1, 0, 1)), api.ErrRange},
		"mixed of no wood":            {with(1, mix(3, 1, 0)), api.ErrMissing},
		"mixed of a wood below 0":     {with(1, mix(3, low, 1)), api.ErrMissing},
		"none mixed":                  {with(1, mix(3, 0, 0)), api.ErrRange},
		"fewer than none mixed":       {with(1, mix(3, 0, low)), api.ErrRange},
		"13 mixed":                    {with(1, mix(3, 0, 13)), api.ErrRange},
		"13 mixed behind 12":          {with(1, mix(3, 0, 12), mix(3, 0, 13)), api.ErrRange},
		"13 mixed in two bags":        {with(2, mix(3, 0, 12), mix(0, 1, 1)), api.ErrFull},
		"13 mixed one by one":         {with(1, mix(0, 0, 6), mix(1, 0, 3), mix(0, 0, 4)), api.ErrFull},
		"13 mixed, and drawn between": {with(1, mix(0, 0, 9), pass(0, 9), mix(0, 0, 4)), api.ErrFull},
		"poured from the bag 4":       {with(1, pour(4, 0)), api.ErrRange},
		"poured from the bag -1":      {with(1, pour(-1, 0)), api.ErrRange},
		"poured into the bag 4":       {with(1, pour(0, 4)), api.ErrRange},
		"poured into the bag -1":      {with(1, pour(0, -1)), api.ErrRange},
		"poured from 4 into 4":        {with(1, pour(4, 4)), api.ErrRange},
		"poured into itself":          {with(1, pour(3, 3)), api.ErrClash},
		"aside from the bag 4":        {with(1, aside(4, 0)), api.ErrRange},
		"aside from a bag below 0":    {with(1, aside(low, 1)), api.ErrRange},
		"none aside":                  {with(1, mix(0, 0, 1), aside(0, 0)), api.ErrRange},
		"fewer than none aside":       {with(1, mix(0, 0, 1), aside(0, -1)), api.ErrRange},
		"13 aside":                    {with(1, mix(0, 0, 12), aside(0, 13)), api.ErrRange},
		"aside from nothing":          {with(1, aside(0, 1)), api.ErrShort},
		"more aside than there are":   {with(1, mix(0, 0, 3), aside(0, 4)), api.ErrShort},
		"more aside than are left":    {with(1, mix(0, 0, 3), aside(0, 2), aside(0, 2)), api.ErrShort},
		"passed from the bag 4":       {with(1, pass(4, 0)), api.ErrRange},
		"none passed":                 {with(1, mix(0, 0, 1), pass(0, 0)), api.ErrRange},
		"13 passed":                   {with(1, mix(0, 0, 12), pass(0, 13)), api.ErrRange},
		"passed from nothing":         {with(1, mix(1, 0, 3), pass(0, 1)), api.ErrShort},
		"passed from what was poured": {with(1, mix(0, 0, 3), pour(0, 1), pass(0, 1)), api.ErrShort},
		"more passed than are left":   {with(1, mix(0, 0, 3), pass(0, 2), pass(0, 2)), api.ErrShort},
		"10 passed from 9":            {with(1, mix(0, 0, 9), pass(0, 10)), api.ErrShort},
		"10 passed from 10":           {with(1, mix(0, 0, 10), pass(0, 10)), api.ErrFull},
		"10 passed one by one":        {with(1, mix(0, 0, 12), pass(0, 4), pass(0, 5), pass(0, 1)), api.ErrFull},
		"placed of no wood":           {with(3, place(3)), api.ErrMissing},
		"placed below 0":              {with(3, place(low)), api.ErrMissing},
		"10 placed":                   {with(1, slices.Repeat([]api.Deal{place(0)}, 10)...), api.ErrFull},
		"placed behind 9":             {with(1, mix(0, 0, 9), pass(0, 9), place(0)), api.ErrFull},
		"no wood placed behind 9":     {with(1, mix(0, 0, 9), pass(0, 9), place(1)), api.ErrMissing},
		"no deals":                    {with(3), api.ErrShort},
		"no censer":                   {with(1, trial(0), mix(0, 0, 3), pour(0, 1), aside(1, 3)), api.ErrShort},
	}
}

// needless are games with a deal that has a field that its kind does not name; all else is wrong, too.
func needless() map[string]fault {
	l := map[string]fault{}
	fields := map[string]func(d *api.Deal, n int){
		"Bag":   func(d *api.Deal, n int) { d.Bag = n },
		"Other": func(d *api.Deal, n int) { d.Other = n },
		"Wood":  func(d *api.Deal, n int) { d.Wood = n },
		"Count": func(d *api.Deal, n int) { d.Count = n },
	}
	for _, c := range []struct {
		right, wrong api.Deal
		fields       []string
	}{
		{trial(0), trial(9), []string{"Bag", "Other", "Count"}},
		{mix(0, 0, 1), mix(9, 9, 99), []string{"Other"}},
		{pour(0, 1), pour(9, 9), []string{"Wood", "Count"}},
		{aside(0, 1), aside(9, 99), []string{"Other", "Wood"}},
		{pass(0, 1), pass(9, 99), []string{"Other", "Wood"}},
		{place(0), place(9), []string{"Bag", "Other", "Count"}},
	} {
		for _, field := range c.fields {
			for where, n := range map[string]int{" above 0": 1, " below 0": -1, " far above 0": math.MaxInt} {
				right, wrong := c.right, c.wrong
				fields[field](&right, n)
				fields[field](&wrong, n)
				name := string(rune('0'+right.Kind)) + " with " + field + where
				l[name] = fault{with(1, mix(0, 0, 1), right), api.ErrForm}
				l[name+", all wrong"] = fault{with(1, wrong), api.ErrForm}
			}
		}
	}
	return l
}

// refusals returns what each function but Read says of a game.
func refusals(g api.Game) map[string]api.Errno {
	said := map[string]api.Errno{"Check": game.Check(g)}
	// What comes beside the game is wrong, too.
	_, said["Play"] = game.Play(g, slices.Repeat([]int{-1}, 99))
	_, _, said["Ways"] = game.Ways(g, []int{-1})
	_, _, said["Courses"] = game.Courses(g)
	_, said["Due"] = game.Due(g, api.Ask{}, nil)
	_, _, said["Answers"] = game.Answers(g, api.Ask{})
	_, said["Write"] = game.Write(g)
	return said
}

func TestGamesThatAreNotValid(t *testing.T) {
	for _, faults := range []map[string]fault{wrongWoods(), wrongDeals(), needless()} {
		for name, c := range faults {
			for function, e := range refusals(c.g) {
				if e != c.e {
					t.Errorf("%s of %s: %v, want %v", function, name, e, c.e)
				}
			}
		}
	}
}

func TestGamesThatAreValid(t *testing.T) {
	for i, g := range []api.Game{
		example(), brim(), with(1, place(0)), with(6, place(5)),
		{Woods: []api.Wood{{Name: "abcdefgh", Family: 0}, {Name: "z", Family: 9}}, Deals: []api.Deal{place(1)}},
		with(2, append(slices.Repeat([]api.Deal{pour(0, 3), pour(3, 0)}, 11), mix(3, 1, 12), pass(3, 9))...),
		with(1, slices.Repeat([]api.Deal{place(0)}, 9)...),
		with(1, mix(0, 0, 12), aside(0, 12), place(0)),
		with(1, mix(0, 0, 3), aside(0, 2), pass(0, 1)),
		with(1, mix(0, 0, 3), pour(0, 1), pass(1, 3), place(0)),
		with(2, mix(0, 0, 1), pass(0, 1), mix(0, 0, 1), mix(1, 1, 1), pour(1, 0), pass(0, 2)),
		// What is tried last is tried as well; and all of them are.
		with(3, place(0), trial(2), trial(1), trial(0)),
	} {
		if e := game.Check(g); e != api.OK {
			t.Error(i, e)
		}
	}
	for _, g := range games(300, 500) {
		if e := game.Check(g); e != api.OK {
			t.Error(g, e)
		}
	}
}

// The example's row for Check.
func TestCheckOfTheExample(t *testing.T) {
	deals := example().Deals
	for i, c := range []fault{
		{with(3, deals...), api.OK},
		{with(3, append(slices.Clone(deals[:5]), pass(0, 5))...), api.ErrShort},
		{with(3, append([]api.Deal{trial(0)}, deals...)...), api.ErrExists},
		{with(3, deals[:5]...), api.ErrShort},
		{with(3, append([]api.Deal{{Kind: api.DealTrial, Wood: 2, Count: 1}}, deals...)...), api.ErrForm},
	} {
		if e := game.Check(c.g); e != c.e {
			t.Error(i, e)
		}
	}
}

// P2.2

// mixed is a game in which packets of one bag come into another one, in which there are some already.
func mixed() api.Game {
	return with(3, mix(0, 1, 1), mix(0, 0, 2), mix(0, 2, 1), pass(0, 1), aside(0, 1), mix(1, 1, 1), pour(0, 1), place(2), pass(1, 3))
}

// crossed is a game in which it does not matter in the end from which bag a was set aside, and from which one b.
func crossed() api.Game {
	return with(2, mix(0, 0, 1), mix(0, 1, 1), mix(1, 0, 1), mix(1, 1, 1), aside(0, 1), aside(1, 1), pour(0, 1), pass(1, 2))
}

func TestPlayTakesPicks(t *testing.T) {
	for i, c := range []struct {
		g           api.Game
		picks, want []int
		e           api.Errno
	}{
		{example(), []int{0, 2, 1}, []int{0, 2, 1}, api.OK},
		{example(), []int{3, 2, 0}, []int{2, 1, 0}, api.OK},
		{example(), []int{1, 1, 1}, []int{0, 1, 2}, api.OK},
		{example(), []int{0, 0, 0}, []int{0, 0, 1}, api.OK},
		{example(), []int{0, 3, 0}, nil, api.ErrRange},
		{example(), []int{0, 0, 2}, nil, api.ErrRange},
		{example(), []int{4, 0, 0}, nil, api.ErrRange},
		{example(), []int{-1, 0, 0}, nil, api.ErrRange},
		{example(), []int{math.MinInt, 0, 0}, nil, api.ErrRange},
		{example(), []int{0, 0, math.MaxInt}, nil, api.ErrRange},
		{example(), []int{0, 0}, nil, api.ErrForm},
		{example(), []int{9, 9, 9, 9}, nil, api.ErrForm},
		{example(), nil, nil, api.ErrForm},
		{with(3, place(2), place(0)), nil, []int{2, 0}, api.OK},
		{with(3, place(2), place(0)), []int{}, []int{2, 0}, api.OK},
		{with(3, place(2), place(0)), []int{0}, nil, api.ErrForm},
		// Of a a b c an a comes first, then b is set aside; so a b c are left.
		{mixed(), []int{0, 1, 2, 0, 0}, []int{0, 2, 2, 0, 1}, api.OK},
		{mixed(), []int{3, 2, 2, 1, 0}, []int{2, 2, 1, 0, 0}, api.OK},
		{mixed(), []int{3, 2, 3, 0, 0}, nil, api.ErrRange},
		{mixed(), []int{3, 3, 0, 0, 0}, nil, api.ErrRange},
		// Also what nobody smells has to be there.
		{with(2, mix(0, 0, 1), mix(0, 1, 1), pass(0, 1), aside(0, 1)), []int{1, 0}, []int{1}, api.OK},
		{with(2, mix(0, 0, 1), mix(0, 1, 1), pass(0, 1), aside(0, 1)), []int{1, 1}, nil, api.ErrRange},
	} {
		if course, e := game.Play(c.g, c.picks); e != c.e || !slices.Equal(course, c.want) {
			t.Error(i, course, e)
		}
	}
}

// Of all lists of numbers just those are taken that are picks.
func TestPlayTakesNothingElse(t *testing.T) {
	g := with(3, mix(0, 0, 2), mix(0, 2, 1), pass(0, 1), mix(1, 1, 1), pour(0, 1), aside(1, 1), pass(1, 1))
	taken := 0
	for first := -1; first <= 4; first++ {
		for second := -1; second <= 4; second++ {
			for third := -1; third <= 4; third++ {
				is := first >= 0 && first < 3 && second >= 0 && second < 3 && third >= 0 && third < 2
				course, e := game.Play(g, []int{first, second, third})
				if is && (e != api.OK || len(course) != 2) || !is && (e != api.ErrRange || course != nil) {
					t.Error(first, second, third, course, e)
				}
				if is {
					taken++
				}
			}
		}
	}
	if _, all := counted(t, g, []int{0, 0}); all != taken {
		t.Error(all, taken)
	}
}

// P2.3

func TestWaysOfACourse(t *testing.T) {
	spare := with(2, mix(0, 0, 2), mix(0, 1, 1), aside(0, 1), pass(0, 2))
	for i, c := range []struct {
		g         api.Game
		course    []int
		ways, all int
		e         api.Errno
	}{
		{example(), []int{0, 1, 0}, 2, 24, api.OK},
		{example(), []int{0, 0, 0}, 0, 24, api.OK},
		{example(), []int{0, 3, 0}, 0, 0, api.ErrMissing},
		{example(), []int{0, 0, -1}, 0, 0, api.ErrMissing},
		{example(), []int{math.MinInt, 0, 0}, 0, 0, api.ErrMissing},
		{example(), []int{math.MaxInt, 0, 0}, 0, 0, api.ErrMissing},
		{example(), []int{0, 9}, 0, 0, api.ErrForm},
		{example(), []int{0, 0, 0, 9}, 0, 0, api.ErrForm},
		{example(), nil, 0, 0, api.ErrForm},
		{with(3, place(2)), []int{2}, 1, 1, api.OK},
		{with(3, place(2)), []int{1}, 0, 1, api.OK},
		{with(3, place(2), place(1)), []int{2, 1}, 1, 1, api.OK},
		{with(3, place(2), place(1)), []int{0, 1}, 0, 1, api.OK},
		{spare, []int{0, 0}, 2, 6, api.OK},
		{spare, []int{0, 1}, 2, 6, api.OK},
		{spare, []int{1, 1}, 0, 6, api.OK},
		// Also those set aside behind the last censer are ways.
		{with(2, mix(0, 0, 2), mix(0, 1, 1), pass(0, 1), aside(0, 2)), []int{0}, 4, 6, api.OK},
		{with(2, mix(0, 0, 2), mix(0, 1, 2), pass(0, 1), aside(0, 2), place(1), aside(0, 1)), []int{1, 1}, 12, 24, api.OK},
		{with(1, mix(0, 0, 12), pass(0, 9)), make([]int, 9), 79833600, 79833600, api.OK},
		{with(1, mix(0, 0, 12), pass(0, 9), aside(0, 3)), make([]int, 9), 479001600, 479001600, api.OK},
		{with(2, mix(0, 0, 6), mix(0, 1, 6), aside(0, 3), pass(0, 9)), []int{0, 1, 0, 1, 0, 1, 0, 1, 0}, 1555200, 479001600, api.OK},
		{with(2, mix(0, 0, 12), aside(0, 12), place(1)), []int{1}, 479001600, 479001600, api.OK},
	} {
		if ways, all, e := game.Ways(c.g, c.course); ways != c.ways || all != c.all || e != c.e {
			t.Error(i, ways, all, e)
		}
	}
}

func TestCoursesInOrder(t *testing.T) {
	for i, c := range []struct {
		g    api.Game
		l    [][]int
		ways []int
	}{
		{example(), [][]int{{0, 0, 1}, {0, 0, 2}, {0, 1, 0}, {0, 1, 2}, {0, 2, 0}, {0, 2, 1}, {1, 0, 0}, {1, 0, 2}, {1, 2, 0}, {2, 0, 0}, {2, 0, 1}, {2, 1, 0}}, slices.Repeat([]int{2}, 12)},
		{with(3, place(2), place(0)), [][]int{{2, 0}}, []int{1}},
		{with(2, mix(0, 0, 2), mix(0, 1, 1), aside(0, 1), pass(0, 2)), [][]int{{0, 0}, {0, 1}, {1, 0}}, []int{2, 2, 2}},
		{with(3, mix(0, 0, 3), mix(0, 1, 1), pass(0, 1), place(2)), [][]int{{0, 2}, {1, 2}}, []int{3, 1}},
		{with(3, mix(0, 0, 3), mix(0, 1, 1), place(2), pass(0, 1), aside(0, 2)), [][]int{{2, 0}, {2, 1}}, []int{18, 6}},
		{crossed(), [][]int{{0, 0}, {0, 1}, {1, 0}, {1, 1}}, []int{2, 2, 2, 2}},
		// Of b b one is passed, then the other one together with a.
		{with(2, mix(1, 0, 1), pour(1, 0), mix(1, 1, 2), pass(1, 1), pour(0, 1), pass(1, 1)), [][]int{{1, 0}, {1, 1}}, []int{2, 2}},
	} {
		if l, ways := listedOf(t, c.g); !same(l, c.l) || !slices.Equal(ways, c.ways) {
			t.Error(i, l, ways)
		}
	}
}

// listedOf returns the courses of a game, and their ways.
func listedOf(t *testing.T, g api.Game) ([][]int, []int) {
	t.Helper()
	l, ways, e := game.Courses(g)
	return listed(t, l, ways, e)
}

// tooMany are games that may take more courses than there may be.
func tooMany() map[string]api.Game {
	return map[string]api.Game{
		"two more": with(4, mix(0, 1, 1), mix(0, 2, 3), mix(0, 3, 2), pass(0, 3), pour(0, 1), mix(1, 0, 1), mix(1, 1, 2), mix(1, 2, 3), pass(1, 5)),
		"many":     with(6, mix(0, 0, 2), mix(0, 1, 2), mix(0, 2, 2), mix(0, 3, 2), mix(0, 4, 2), mix(0, 5, 2), pass(0, 9)),
	}
}

func TestCoursesUpToTheMost(t *testing.T) {
	l, _ := listedOf(t, brim())
	if len(l) != api.MaxCourses || !slices.IsSortedFunc(l, slices.Compare[[]int]) {
		t.Error(len(l))
	}
	for name, g := range tooMany() {
		if l, ways, e := game.Courses(g); e != api.ErrFull || l != nil || ways != nil {
			t.Error(name, len(l), len(ways), e)
		}
	}
}

// P2.4

func TestDueAnswers(t *testing.T) {
	for i, c := range []struct {
		a            api.Ask
		course, want []int
	}{
		{api.Ask{Kind: api.AskSame}, []int{0, 1, 0}, []int{0, 1, 0}},
		{api.Ask{Kind: api.AskSame}, []int{2, 0, 2}, []int{0, 1, 0}},
		{api.Ask{Kind: api.AskSame}, []int{2, 1, 0}, []int{0, 1, 2}},
		{api.Ask{Kind: api.AskSame}, []int{1, 1, 0}, []int{0, 0, 1}},
		{api.Ask{Kind: api.AskNew}, []int{0, 2, 0}, []int{1}},
		{api.Ask{Kind: api.AskNew}, []int{0, 1, 0}, nil},
		{api.Ask{Kind: api.AskNew}, []int{2, 2, 2}, []int{0, 1, 2}},
		{api.Ask{Kind: api.AskName}, []int{0, 2, 0}, []int{0, 2, 0}},
		{api.Ask{Kind: api.AskName}, []int{1, 1, 1}, []int{1, 1, 1}},
		{api.Ask{Kind: api.AskWhich}, []int{0, 1, 0}, []int{0, 2}},
		{api.Ask{Kind: api.AskWhich, Wood: 1}, []int{0, 1, 0}, []int{1}},
		{api.Ask{Kind: api.AskWhich, Wood: 2}, []int{0, 1, 0}, nil},
		{api.Ask{Kind: api.AskFirst}, []int{2, 0, 2}, []int{2, 0}},
		{api.Ask{Kind: api.AskFirst}, []int{2, 1, 0}, []int{2, 1, 0}},
		{api.Ask{Kind: api.AskFirst}, []int{1, 1, 1}, []int{1}},
		{api.Ask{Kind: api.AskCount}, []int{0, 2, 0}, []int{2, 0, 1}},
		{api.Ask{Kind: api.AskCount}, []int{1, 1, 1}, []int{0, 3, 0}},
	} {
		if answer, e := game.Due(example(), c.a, c.course); e != api.OK || !slices.Equal(answer, c.want) {
			t.Error(i, answer, e)
		}
	}
	// A wood is not new, either, if it is tried behind the censers.
	later := with(3, mix(0, 0, 1), mix(0, 1, 1), pass(0, 2), trial(1), place(2))
	if answer, e := game.Due(later, api.Ask{Kind: api.AskNew}, []int{0, 1, 2}); e != api.OK || !slices.Equal(answer, []int{0, 2}) {
		t.Error(answer, e)
	}
	// Nine censers of one wood.
	nine := with(1, mix(0, 0, 9), pass(0, 9))
	for kind, want := range [][]int{api.AskSame: make([]int, 9), api.AskNew: {0, 1, 2, 3, 4, 5, 6, 7, 8}, api.AskName: make([]int, 9), api.AskWhich: {0, 1, 2, 3, 4, 5, 6, 7, 8}, api.AskFirst: {0}, api.AskCount: {9}} {
		if kind > 0 {
			if answer, e := game.Due(nine, api.Ask{Kind: kind}, make([]int, 9)); e != api.OK || !slices.Equal(answer, want) {
				t.Error(kind, answer, e)
			}
		}
	}
}

func TestAsksThatAreNotValid(t *testing.T) {
	for _, c := range []struct {
		a api.Ask
		e api.Errno
	}{
		{api.Ask{}, api.ErrKind},
		{api.Ask{Kind: 7}, api.ErrKind},
		{api.Ask{Kind: -1, Wood: 3}, api.ErrKind},
		{api.Ask{Kind: math.MaxInt, Wood: -1}, api.ErrKind},
		{api.Ask{Kind: api.AskSame, Wood: 1}, api.ErrForm},
		{api.Ask{Kind: api.AskNew, Wood: -1}, api.ErrForm},
		{api.Ask{Kind: api.AskName, Wood: 3}, api.ErrForm},
		{api.Ask{Kind: api.AskFirst, Wood: math.MaxInt}, api.ErrForm},
		{api.Ask{Kind: api.AskCount, Wood: math.MinInt}, api.ErrForm},
		{api.Ask{Kind: api.AskWhich, Wood: 3}, api.ErrMissing},
		{api.Ask{Kind: api.AskWhich, Wood: -1}, api.ErrMissing},
		{api.Ask{Kind: api.AskWhich, Wood: math.MaxInt}, api.ErrMissing},
	} {
		// The ask comes before the course, and before all courses.
		for _, course := range [][]int{{0, 0, 1}, {0, 9, 0}, {0}, nil} {
			if answer, e := game.Due(example(), c.a, course); e != c.e || answer != nil {
				t.Error(c.a, course, answer, e)
			}
		}
		for _, g := range []api.Game{example(), with(3, mix(0, 0, 4), mix(0, 1, 4), mix(0, 2, 4), pass(0, 9))} {
			if l, ways, e := game.Answers(g, c.a); e != c.e || l != nil || ways != nil {
				t.Error(c.a, l, ways, e)
			}
		}
	}
	for _, c := range []struct {
		course []int
		e      api.Errno
	}{{nil, api.ErrForm}, {[]int{0, 9}, api.ErrForm}, {[]int{0, 0, 0, 0}, api.ErrForm}, {[]int{0, 3, 0}, api.ErrMissing}, {[]int{0, 0, -1}, api.ErrMissing}} {
		for _, a := range asks(example()) {
			if answer, e := game.Due(example(), a, c.course); e != c.e || answer != nil {
				t.Error(a, c.course, answer, e)
			}
		}
	}
}

// answersOf returns the answers of a game to an ask, and their ways.
func answersOf(t *testing.T, g api.Game, a api.Ask) ([][]int, []int) {
	t.Helper()
	l, ways, e := game.Answers(g, a)
	return listed(t, l, ways, e)
}

func TestAnswersInOrder(t *testing.T) {
	for _, c := range []struct {
		a    api.Ask
		l    [][]int
		ways []int
	}{
		{api.Ask{Kind: api.AskSame}, [][]int{{0, 0, 1}, {0, 1, 0}, {0, 1, 1}, {0, 1, 2}}, []int{4, 4, 4, 12}},
		{api.Ask{Kind: api.AskNew}, [][]int{nil, {0}, {1}, {2}}, []int{6, 6, 6, 6}},
		{api.Ask{Kind: api.AskName}, [][]int{{0, 0, 1}, {0, 0, 2}, {0, 1, 0}, {0, 1, 2}, {0, 2, 0}, {0, 2, 1}, {1, 0, 0}, {1, 0, 2}, {1, 2, 0}, {2, 0, 0}, {2, 0, 1}, {2, 1, 0}}, slices.Repeat([]int{2}, 12)},
		{api.Ask{Kind: api.AskWhich}, [][]int{{0}, {1}, {2}, {0, 1}, {0, 2}, {1, 2}}, []int{4, 4, 4, 4, 4, 4}},
		{api.Ask{Kind: api.AskWhich, Wood: 1}, [][]int{nil, {0}, {1}, {2}}, []int{6, 6, 6, 6}},
		{api.Ask{Kind: api.AskFirst}, [][]int{{0, 1}, {0, 2}, {1, 0}, {2, 0}, {0, 1, 2}, {0, 2, 1}, {1, 0, 2}, {1, 2, 0}, {2, 0, 1}, {2, 1, 0}}, []int{4, 4, 2, 2, 2, 2, 2, 2, 2, 2}},
		{api.Ask{Kind: api.AskCount}, [][]int{{1, 1, 1}, {2, 0, 1}, {2, 1, 0}}, []int{12, 6, 6}},
	} {
		if l, ways := answersOf(t, example(), c.a); !same(l, c.l) || !slices.Equal(ways, c.ways) {
			t.Error(c.a, l, ways)
		}
	}
	for name, g := range tooMany() {
		for _, a := range asks(g) {
			if l, ways, e := game.Answers(g, a); e != api.ErrFull || l != nil || ways != nil {
				t.Error(name, a, len(l), len(ways), e)
			}
		}
	}
	if l, _ := answersOf(t, brim(), api.Ask{Kind: api.AskName}); len(l) != api.MaxCourses {
		t.Error(len(l))
	}
}

// P2.5

func TestWriteAndReadPrograms(t *testing.T) {
	for i, c := range []struct {
		g    api.Game
		rows []string
	}{
		{example(), []string{"wood a 1", "wood b 2", "wood c 3", "trial 0", "trial 1", "mix 0 0 2", "mix 0 1 1", "mix 0 2 1", "pass 0 3"}},
		{with(3, trial(0), mix(0, 1, 12), pour(0, 3), aside(3, 2), pass(3, 8), place(2)), []string{"wood a 1", "wood b 2", "wood c 3", "trial 0", "mix 0 1 12", "pour 0 3", "aside 3 2", "pass 3 8", "place 2"}},
		{api.Game{Woods: []api.Wood{{Name: "abcdefgh", Family: 9}, {Name: "wood", Family: 0}, {Name: "trial", Family: 0}}, Deals: []api.Deal{place(0)}}, []string{"wood abcdefgh 9", "wood wood 0", "wood trial 0", "place 0"}},
	} {
		want := strings.Join(c.rows, "\n") + "\n"
		if text, e := game.Write(c.g); text != want || e != api.OK {
			t.Errorf("%d: %q %v", i, text, e)
		}
		if g, row, e := game.Read(want); !slices.Equal(g.Woods, c.g.Woods) || !slices.Equal(g.Deals, c.g.Deals) || row != 0 || e != api.OK {
			t.Error(i, g, row, e)
		}
	}
}

// Rows of a game that is valid, with another row in place of one of them, or behind them.
func TestRowsThatAreNotAsSaid(t *testing.T) {
	good := []string{"wood a 1", "wood b 2", "trial 0", "mix 0 1 3", "pour 0 1", "aside 1 1", "pass 1 1", "place 0"}
	if _, row, e := game.Read(strings.Join(good, "\n") + "\n"); row != 0 || e != api.OK {
		t.Fatal(row, e)
	}
	bad := []string{
		"", " ", "x", "wood", "Wood a 1", "wood a", "wood a 1 ", "wood a 1 1", " wood a 1", "wood  a 1", "wood a  1", "wood  1", "wood 1", "woods a 1",
		"wood a x", "wood a -1", "wood a +1", "wood a 00", "wood a 01", "wood a 1234567", "wood a 1x", "wood a 1.", "wood a /", "wood a :", "wood a \t1", "wood a 1\r", "wood a",
		"trial", "trial ", "trial x", "trial 00", "trial 0 0", "trial -0", "trial 0 ", "Trial 0", "trials 0", "trial\t0", "trial 0\x00", "trial ٣",
		"mix", "mix 0", "mix 0 0", "mix 0 0 1 0", "mix 0 0 01", "mix 0 0 x", "mix 0 x 1", "mix x 0 1", "mix 0  0 1", "mix 0 0 1 ",
		"pour 0", "pour 0 1 1", "pour 0 -1", "pour 0,1", "aside 0", "aside 0 1 1", "aside 0 1234567", "pass 0", "pass 0 1 1", "pass  0 1", "place", "place 0 0", "place a", "1", "1 0", "0 0", "deal 0",
	}
	for _, other := range bad {
		for i := range good {
			rows := slices.Clone(good)
			rows[i] = other
			// The first row that is not as said is named, also if a later one is not, either, or the game is not valid.
			for _, text := range []string{strings.Join(rows, "\n") + "\n", strings.Join(rows[:i+1], "\n") + "\n", strings.Join(rows, "\n") + "\n\n", strings.Join(rows, "\n") + "\nplace 0"} {
				if g, row, e := game.Read(text); row != i+1 || e != api.ErrForm || g.Woods != nil || g.Deals != nil {
					t.Errorf("%q: %v %d %v", text, g, row, e)
				}
			}
		}
	}
	// A row of a wood behind one of a deal; and what stands behind the last line feed.
	for text, want := range map[string]int{
		"wood a 1\nplace 0\nwood b 1\n":          3,
		"wood a 1\nplace 0\nplace 0\nwood b 1\n": 4,
		"place 0\nwood a 1\n":                    2,
		"wood a 1\nplace 0":                      2,
		"wood a 1\nplace 0\n ":                   3,
		"wood a 1\nplace 0\nplace 0":             3,
		"wood a 1":                               1,
		"\n":                                     1,
		"\nwood a 1\nplace 0\n":                  1,
		"wood a 1\r\nplace 0\r\n":                1,
		strings.Repeat("x", 2000):                1,
		strings.Repeat("wood a 1\n", 222) + "..": 223,
	} {
		if g, row, e := game.Read(text); row != want || e != api.ErrForm || g.Woods != nil || g.Deals != nil {
			t.Errorf("%q: %v %d %v", text, g, row, e)
		}
	}
}

// Programs whose rows are all as said, but whose games are not valid; and those that are too long.
func TestProgramsThatAreRefused(t *testing.T) {
	for text, want := range map[string]api.Errno{
		"":                                             api.ErrShort,
		"place 0\n":                                    api.ErrShort,
		"wood a 0\n":                                   api.ErrShort,
		"wood a 0\ntrial 0\n":                          api.ErrShort,
		"wood A 0\nplace 0\n":                          api.ErrForm,
		"wood \t 0\nplace 0\n":                         api.ErrForm,
		"wood \xff 999999\n":                           api.ErrForm,
		"wood abcdefghi 0\nplace 0\n":                  api.ErrForm,
		"wood a 1\nwood a 1\nplace 0\n":                api.ErrExists,
		"wood a 10\nplace 0\n":                         api.ErrRange,
		"wood a 999999\nplace 0\n":                     api.ErrRange,
		"wood a 0\nplace 1\n":                          api.ErrMissing,
		"wood a 0\nplace 999999\n":                     api.ErrMissing,
		"wood a 0\npour 0 0\nplace 0\n":                api.ErrClash,
		"wood a 0\npour 0 4\nplace 0\n":                api.ErrRange,
		"wood a 0\npass 0 1\n":                         api.ErrShort,
		"wood a 0\nmix 0 0 13\npass 0 1\n":             api.ErrRange,
		"wood a 0\nmix 0 0 123456\npass 0 1\n":         api.ErrRange,
		"wood a 0\n" + strings.Repeat("place 0\n", 10): api.ErrFull,
		"wood a 0\n" + strings.Repeat("pour 0 1\n", 24) + "place 0\n": api.ErrFull,
		strings.Repeat("wood a 1\n", 222):                             api.ErrFull,
		"wood " + strings.Repeat("a", 1992) + " 1\n":                  api.ErrForm,
		"wood " + strings.Repeat("a", 1993) + " 1\n":                  api.ErrLong,
		strings.Repeat("wood a 1\n", 223):                             api.ErrLong,
		strings.Repeat("x", 2001):                                     api.ErrLong,
		"wood a 1\nplace 0\n" + strings.Repeat("\n", 2000):            api.ErrLong,
	} {
		if g, row, e := game.Read(text); row != 0 || e != want || g.Woods != nil || g.Deals != nil {
			t.Errorf("%q: %v %d %v", text, g, row, e)
		}
	}
}
