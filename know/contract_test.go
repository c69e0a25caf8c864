package know_test

import (
	"math"
	"math/rand/v2"
	"slices"
	"testing"

	"aloeswood/api"
	"aloeswood/game"
	"aloeswood/know"
)

// P4.1

// changed returns the chapter's mind M after a change.
func changed(change func(m *api.Mind)) api.Mind {
	m := mindM()
	change(&m)
	return m
}

// took returns the chapter's mind M with other rows of its nose.
func took(rows ...[]int) api.Mind {
	return changed(func(m *api.Mind) { m.Noses[0].Take = rows })
}

// smelled returns the chapter's mind M with some more smells.
func smelled(smells ...api.Smell) api.Mind {
	return changed(func(m *api.Mind) { m.Smells = append(m.Smells, smells...) })
}

// fault is a mind that is not valid, and its first error.
type fault struct {
	m api.Mind
	e api.Errno
}

// wrongGames are minds with errors in their games; all else is wrong, too.
func wrongGames() map[string]fault {
	wrong := func(g api.Game) api.Mind {
		return api.Mind{Game: g, Noses: make([]api.Nose, 5), Smells: make([]api.Smell, 9), Facts: make([]api.Fact, 13)}
	}
	return map[string]fault{
		"nothing":             {api.Mind{}, api.ErrShort},
		"no woods":            {wrong(api.Game{}), api.ErrShort},
		"seven woods":         {wrong(with(7, place(0))), api.ErrFull},
		"no kind of deal":     {wrong(with(1, api.Deal{})), api.ErrKind},
		"no such wood":        {wrong(with(1, place(1))), api.ErrMissing},
		"a wood tried twice":  {wrong(with(1, trial(0), trial(0))), api.ErrExists},
		"no censer":           {wrong(with(1, trial(0))), api.ErrShort},
		"too many courses":    {api.Mind{Game: over()}, api.ErrFull},
		"courses, then noses": {changed(func(m *api.Mind) { m.Game = over() }), api.ErrFull},
	}
}

// wrongNoses are minds with errors in their noses.
func wrongNoses() map[string]fault {
	row0, row1, row2 := []int{7, 3, 0}, []int{3, 7, 0}, []int{0, 0, 10}
	return map[string]fault{
		"five noses":                 {changed(func(m *api.Mind) { m.Noses = slices.Repeat([]api.Nose{nose()}, 5) }), api.ErrFull},
		"five noses without rows":    {changed(func(m *api.Mind) { m.Noses = make([]api.Nose, 5) }), api.ErrFull},
		"no rows":                    {took(), api.ErrForm},
		"a row less":                 {took(row0, row1), api.ErrForm},
		"a row more":                 {took(row0, row1, row2, row2), api.ErrForm},
		"a number less":              {took(row0, []int{3, 7}, row2), api.ErrForm},
		"a number more":              {took(row0, row1, []int{0, 0, 10, 0}), api.ErrForm},
		"an empty row":               {took(row0, row1, nil), api.ErrForm},
		"below 0":                    {took(row0, []int{11, -1, 0}, row2), api.ErrRange},
		"only below 0":               {took(row0, []int{-1, 5, 6}, row2), api.ErrRange},
		"above 10":                   {took([]int{11, 0, 0}, row1, row2), api.ErrRange},
		"far off":                    {took([]int{math.MaxInt, math.MaxInt, 12}, row1, row2), api.ErrRange},
		"far below":                  {took(row0, row1, []int{math.MinInt, math.MinInt, 10}), api.ErrRange},
		"nine cases":                 {took(row0, []int{3, 6, 0}, row2), api.ErrForm},
		"eleven cases":               {took(row0, row1, []int{1, 0, 10}), api.ErrForm},
		"30 cases":                   {took(row0, row1, []int{10, 10, 10}), api.ErrForm},
		"no cases":                   {took([]int{0, 0, 0}, row1, row2), api.ErrForm},
		"a length before a range":    {took(row0, []int{11, 7}, row2), api.ErrForm},
		"rows before a range":        {took([]int{11, 0, 0}, row1), api.ErrForm},
		"a range before the cases":   {took([]int{1, 2, 11}, row1, row2), api.ErrRange},
		"a range before a later row": {took(row0, []int{0, 11, 0}, []int{10}), api.ErrRange},
		"cases before a later range": {took(row0, []int{0, 1, 0}, []int{0, 11, 0}), api.ErrForm},
		"a row before a later range": {took(row0, []int{10}, []int{0, 11, 0}), api.ErrForm},
		"the second nose":            {changed(func(m *api.Mind) { m.Noses = append(m.Noses, dull(11, 0, 0)) }), api.ErrRange},
		"the first nose counts":      {changed(func(m *api.Mind) { m.Noses = []api.Nose{dull(11, 0, 0), sharp(2)} }), api.ErrRange},
		"the first nose, turned":     {changed(func(m *api.Mind) { m.Noses = []api.Nose{sharp(2), dull(11, 0, 0)} }), api.ErrForm},
		"noses before smells":        {changed(func(m *api.Mind) { m.Noses, m.Smells = []api.Nose{{}}, make([]api.Smell, 9) }), api.ErrForm},
		"noses before facts":         {told(took(row0), make([]api.Fact, 13)...), api.ErrForm},
	}
}

// wrongSmells are minds with errors in what was smelled.
func wrongSmells() map[string]fault {
	nine := make([]api.Smell, 9)
	return map[string]fault{
		"nine smells":                    {changed(func(m *api.Mind) { m.Smells = nine }), api.ErrFull},
		"nine smells of no nose":         {changed(func(m *api.Mind) { m.Noses, m.Smells = nil, nine }), api.ErrFull},
		"a nose more":                    {smelled(api.Smell{Nose: 1, Censer: 2}), api.ErrMissing},
		"a nose below 0":                 {smelled(api.Smell{Nose: -1, Censer: 2}), api.ErrMissing},
		"no nose":                        {changed(func(m *api.Mind) { m.Noses = nil }), api.ErrMissing},
		"a nose far off":                 {smelled(api.Smell{Nose: math.MaxInt, Censer: 2}), api.ErrMissing},
		"a censer more":                  {smelled(api.Smell{Censer: 3}), api.ErrMissing},
		"a censer below 0":               {smelled(api.Smell{Censer: -1}), api.ErrMissing},
		"a wood more":                    {smelled(api.Smell{Censer: 2, Wood: 3}), api.ErrMissing},
		"a wood below 0":                 {smelled(api.Smell{Censer: 2, Wood: math.MinInt}), api.ErrMissing},
		"twice":                          {smelled(api.Smell{Censer: 1, Wood: 2}), api.ErrExists},
		"twice, as another wood":         {smelled(api.Smell{Censer: 0, Wood: 1}), api.ErrExists},
		"twice, as no wood":              {smelled(api.Smell{Censer: 0, Wood: 3}), api.ErrMissing},
		"twice before a later one":       {smelled(api.Smell{}, api.Smell{Nose: 4}), api.ErrExists},
		"a later one twice":              {smelled(api.Smell{Nose: 4}, api.Smell{}), api.ErrMissing},
		"smells before facts":            {told(smelled(api.Smell{Nose: 1}), make([]api.Fact, 13)...), api.ErrMissing},
		"twice before what is not left":  {smelled(api.Smell{Censer: 2, Wood: 2}, api.Smell{}), api.ErrExists},
		"smelled as what cannot be left": {smelled(api.Smell{Censer: 2, Wood: 2}), api.ErrClash},
	}
}

// wrongFacts are minds with errors in their facts.
func wrongFacts() map[string]fault {
	m := mindM()
	clash := is(1, 0)
	return map[string]fault{
		"13 facts":                      {told(m, slices.Repeat([]api.Fact{is(1, 2)}, 13)...), api.ErrFull},
		"13 facts of no kind":           {told(m, make([]api.Fact, 13)...), api.ErrFull},
		"the kind 0":                    {told(m, api.Fact{A: 3, B: 3}), api.ErrKind},
		"the kind 5":                    {told(m, api.Fact{Kind: 5, A: 3}), api.ErrKind},
		"a kind below 0":                {told(m, api.Fact{Kind: math.MinInt}), api.ErrKind},
		"a kind far off":                {told(m, api.Fact{Kind: math.MaxInt}), api.ErrKind},
		"no such censer is":             {told(m, is(3, 0)), api.ErrMissing},
		"no such censer is not":         {told(m, not(-1, 0)), api.ErrMissing},
		"no such censer is like":        {told(m, alike(3, 0)), api.ErrMissing},
		"no such censer is unlike":      {told(m, other(math.MinInt, 0)), api.ErrMissing},
		"is no wood":                    {told(m, is(0, 3)), api.ErrMissing},
		"is a wood below 0":             {told(m, is(0, -1)), api.ErrMissing},
		"is not what is no wood":        {told(m, not(0, 3)), api.ErrMissing},
		"is like no censer":             {told(m, alike(0, 3)), api.ErrMissing},
		"is like a censer below 0":      {told(m, alike(0, -1)), api.ErrMissing},
		"is unlike no censer":           {told(m, other(0, math.MaxInt)), api.ErrMissing},
		"neither is one, nor another":   {told(m, alike(3, 3)), api.ErrMissing},
		"like itself":                   {told(m, alike(2, 2)), api.ErrForm},
		"unlike itself":                 {told(m, other(0, 0)), api.ErrForm},
		"a form before a later kind":    {told(m, alike(1, 1), api.Fact{}), api.ErrForm},
		"a kind before a later form":    {told(m, api.Fact{}, alike(1, 1)), api.ErrKind},
		"no censer before a later kind": {told(m, is(3, 0), api.Fact{}), api.ErrMissing},
		"a later one before the clash":  {told(m, clash, alike(1, 1)), api.ErrForm},
		"is another one":                {told(m, clash), api.ErrClash},
		"is not the one":                {told(m, not(1, 2)), api.ErrClash},
		"is like another one":           {told(m, alike(1, 2)), api.ErrClash},
		"is one, and is not":            {told(m, is(0, 1), not(0, 1)), api.ErrClash},
		"is like one, and is not":       {told(m, alike(0, 2), other(2, 0)), api.ErrClash},
		"all three are unlike a":        {told(m, not(0, 0), not(1, 0), not(2, 0)), api.ErrClash},
		"not as the game":               {told(api.Mind{Game: example()}, alike(0, 1), alike(1, 2)), api.ErrClash},
	}
}

// refusals returns what each function of a mind says of one, and whether all else is zero.
func refusals(m api.Mind) map[string]fault {
	said := map[string]fault{"Check": {e: know.Check(m)}}
	note := func(function string, e api.Errno, zero bool) {
		f := fault{e: e}
		if !zero {
			f.m = m
		}
		said[function] = f
	}
	// What comes beside the mind is wrong, too.
	l, weights, e := know.Left(m)
	note("Left", e, len(l)+len(weights) == 0)
	l, e = know.Sure(m)
	note("Sure", e, len(l) == 0)
	l, e = know.Pairs(m)
	note("Pairs", e, len(l) == 0)
	cut, e := know.Cut(m, -1)
	note("Cut", e, equal(cut, api.Mind{}))
	answer, is, e := know.Decided(m, api.Ask{})
	note("Decided", e, len(answer) == 0 && !is)
	answer, sum, of, e := know.Best(m, api.Ask{}, 0)
	note("Best", e, len(answer) == 0 && sum == 0 && of == 0)
	return said
}

func TestMindsThatAreNotValid(t *testing.T) {
	for _, faults := range []map[string]fault{wrongGames(), wrongNoses(), wrongSmells(), wrongFacts()} {
		for name, c := range faults {
			for function, said := range refusals(c.m) {
				if said.e != c.e || !equal(said.m, api.Mind{}) {
					t.Errorf("%s of %s: %v, want %v", function, name, said.e, c.e)
				}
			}
		}
	}
}

func TestMindsThatAreValid(t *testing.T) {
	noses := slices.Repeat([]api.Nose{nose()}, 4)
	var eight []api.Smell
	for number := range 4 {
		eight = append(eight, api.Smell{Nose: number, Censer: 0, Wood: 1}, api.Smell{Nose: number, Censer: 2, Wood: 0})
	}
	for i, m := range []api.Mind{
		mindM(), mindK(), {Game: example()}, {Game: brim()}, {Game: with(1, place(0))},
		{Game: example(), Noses: noses}, {Game: example(), Noses: noses, Smells: eight},
		{Game: example(), Noses: []api.Nose{sharp(3), dull(0, 10, 0), dull(10, 0, 0), dull(3, 3, 4)}},
		told(mindM(), slices.Repeat([]api.Fact{is(1, 2)}, 12)...),
		// A censer's wood may have the number of the censer.
		told(api.Mind{Game: example()}, is(0, 0), is(2, 2), not(1, 0), not(2, 0)),
		told(api.Mind{Game: example()}, alike(0, 2), alike(2, 0), other(1, 0), other(2, 1)),
	} {
		if e := know.Check(m); e != api.OK {
			t.Error(i, e)
		}
	}
	for _, m := range minds(t, 300) {
		if e := know.Check(m.Mind); e != api.OK {
			t.Error(m, e)
		}
	}
}

func TestLeftOfTheExamples(t *testing.T) {
	three := [][]int{{0, 2, 0}, {0, 2, 1}, {1, 2, 0}}
	both := mindM()
	both.Noses = append(both.Noses, sharp(3))
	both.Smells = append(both.Smells, api.Smell{Nose: 1, Censer: 2, Wood: 1})
	for i, c := range []struct {
		m       api.Mind
		l       [][]int
		weights []int
	}{
		{mindM(), three, []int{140, 140, 60}},
		{mindK(), three, []int{980, 420, 420}},
		{both, three[1:2], []int{1400}},
		{told(mindM(), alike(0, 2)), three[:1], []int{140}},
		{told(mindM(), other(0, 2)), three[1:], []int{140, 60}},
		{told(mindM(), not(0, 1), not(1, 0)), three[:2], []int{140, 140}},
		{told(mindK(), is(2, 0), is(0, 1)), three[2:], []int{420}},
		{api.Mind{Game: with(2, place(1), place(0))}, [][]int{{1, 0}}, []int{1}},
	} {
		if l, weights := leftOf(t, c.m); !same(l, c.l) || !slices.Equal(weights, c.weights) {
			t.Error(i, l, weights)
		}
	}
}

// What is left of many minds is what all lists of picks come to.
func TestLeftOfManyMinds(t *testing.T) {
	several := 0
	for _, m := range minds(t, 600) {
		l, weights := leftOf(t, m.Mind)
		want, each := judged(t, m.Mind)
		if !same(l, want) || !slices.Equal(weights, each) {
			t.Fatal(m, l, weights, want, each)
		}
		if len(l) > 1 {
			several++
		}
	}
	if several < 200 {
		t.Error(several)
	}
}

// Weights and points are exact, also the greatest ones.
func TestTheGreatestWeights(t *testing.T) {
	const most = factorial12 * 100000000
	m := api.Mind{Game: full(9), Noses: []api.Nose{sharp(1)}}
	for censer := range api.MaxSmells {
		m.Smells = append(m.Smells, api.Smell{Censer: censer})
	}
	if l, weights := leftOf(t, m); len(l) != 1 || !slices.Equal(weights, []int{most}) {
		t.Error(l, weights)
	}
	for _, c := range []struct{ kind, points int }{{api.AskSame, 36}, {api.AskName, 9}, {api.AskWhich, 9}, {api.AskNew, 9}, {api.AskFirst, 1}, {api.AskCount, 1}} {
		if _, sum, of := bestOf(t, m, api.Ask{Kind: c.kind}, api.PointEach); sum != c.points*most || of != most {
			t.Error(c, sum, of)
		}
	}
	if sum, of := skillOf(t, full(8), sharp(1), api.Ask{Kind: api.AskSame}, api.PointEach); sum != 28*most || of != most {
		t.Error(sum, of)
	}
}

// P4.2

// verdict is what follows if something is so in some of all courses.
func verdict(some, all int) int {
	switch some {
	case all:
		return api.Sure
	case 0:
		return api.Never
	}
	return api.Open
}

func TestVerdictsOfTheExamples(t *testing.T) {
	const s, n, o = api.Sure, api.Never, api.Open
	for i, c := range []struct {
		m           api.Mind
		sure, pairs [][]int
	}{
		{mindM(), [][]int{{o, o, n}, {n, n, s}, {o, o, n}}, [][]int{{s, n, o}, {n, s, n}, {o, n, s}}},
		{api.Mind{Game: example()}, [][]int{{o, o, o}, {o, o, o}, {o, o, o}}, [][]int{{s, o, o}, {o, s, o}, {o, o, s}}},
		{told(mindM(), alike(2, 0)), [][]int{{s, n, n}, {n, n, s}, {s, n, n}}, [][]int{{s, n, s}, {n, s, n}, {s, n, s}}},
		{told(mindM(), other(2, 0)), [][]int{{o, o, n}, {n, n, s}, {o, o, n}}, [][]int{{s, n, n}, {n, s, n}, {n, n, s}}},
		{api.Mind{Game: with(2, place(1))}, [][]int{{n, s}}, [][]int{{s}}},
		{api.Mind{Game: with(1, place(0), place(0))}, [][]int{{s}, {s}}, [][]int{{s, s}, {s, s}}},
	} {
		sure, pairs := must[[][]int](t)(know.Sure(c.m)), must[[][]int](t)(know.Pairs(c.m))
		if !same(sure, c.sure) || !same(pairs, c.pairs) {
			t.Error(i, sure, pairs)
		}
	}
}

func TestVerdictsOfManyMinds(t *testing.T) {
	seen := map[int]int{}
	for _, m := range minds(t, 400) {
		l, _ := judged(t, m.Mind)
		count := func(is func(course []int) bool) int {
			n := 0
			for _, course := range l {
				if is(course) {
					n++
				}
			}
			return verdict(n, len(l))
		}
		var sure, pairs [][]int
		for censer := range m.truth {
			var woods, others []int
			for wood := range m.Game.Woods {
				woods = append(woods, count(func(course []int) bool { return course[censer] == wood }))
				seen[woods[wood]]++
			}
			for other := range m.truth {
				others = append(others, count(func(course []int) bool { return course[censer] == course[other] }))
			}
			sure, pairs = append(sure, woods), append(pairs, others)
		}
		if x, y := must[[][]int](t)(know.Sure(m.Mind)), must[[][]int](t)(know.Pairs(m.Mind)); !same(x, sure) || !same(y, pairs) {
			t.Fatal(m, x, sure, y, pairs)
		}
	}
	if min(seen[api.Sure], seen[api.Never], seen[api.Open]) < 300 {
		t.Error(seen)
	}
}

// P4.3

func TestCuts(t *testing.T) {
	m := told(mindK(), is(1, 2), not(0, 2), other(0, 1), other(2, 1), not(1, 1), alike(2, 0), alike(0, 2))
	m.Smells = []api.Smell{m.Smells[2], m.Smells[0], m.Smells[1]}
	facts := m.Facts
	bare := api.Mind{Game: example(), Noses: []api.Nose{nose()}}
	for after, want := range []api.Mind{
		bare,
		{Game: bare.Game, Noses: bare.Noses, Smells: m.Smells[1:2], Facts: facts[1:2]},
		{Game: bare.Game, Noses: bare.Noses, Smells: m.Smells[1:], Facts: []api.Fact{facts[0], facts[1], facts[2], facts[4]}},
		m,
	} {
		if cut := must[api.Mind](t)(know.Cut(m, after)); !equal(cut, want) {
			t.Error(after, cut, want)
		}
	}
	if cut := must[api.Mind](t)(know.Cut(mindK(), 2)); !equal(cut, mindM()) {
		t.Error(cut)
	}
	if cut := must[api.Mind](t)(know.Cut(mindK(), 0)); !equal(cut, bare) {
		t.Error(cut)
	}
	// The wood of a fact is not the censer of that number.
	woody := told(api.Mind{Game: example()}, is(0, 2), not(0, 1))
	if cut := must[api.Mind](t)(know.Cut(woody, 1)); !equal(cut, woody) {
		t.Error(cut)
	}
	for _, after := range []int{-1, 4, math.MinInt, math.MaxInt} {
		if cut, e := know.Cut(m, after); e != api.ErrRange || !equal(cut, api.Mind{}) {
			t.Error(after, cut, e)
		}
	}
}

func TestCutsOfManyMinds(t *testing.T) {
	for _, m := range minds(t, 300) {
		for after := range len(m.truth) + 1 {
			want := api.Mind{Game: m.Game, Noses: m.Noses}
			for _, s := range m.Smells {
				if s.Censer < after {
					want.Smells = append(want.Smells, s)
				}
			}
			for _, f := range m.Facts {
				late := f.A >= after
				if f.Kind == api.FactSame || f.Kind == api.FactOther {
					late = max(f.A, f.B) >= after
				}
				if !late {
					want.Facts = append(want.Facts, f)
				}
			}
			if cut := must[api.Mind](t)(know.Cut(m.Mind, after)); !equal(cut, want) {
				t.Fatal(m, after, cut, want)
			}
		}
		if cut, e := know.Cut(m.Mind, len(m.truth)+1); e != api.ErrRange || !equal(cut, api.Mind{}) {
			t.Fatal(m, cut, e)
		}
	}
}

// P4.4

// wrongAsks are asks about the chapter's game that are not valid, and their errors.
func wrongAsks() map[api.Ask]api.Errno {
	l := map[api.Ask]api.Errno{
		{}: api.ErrKind, {Kind: 7}: api.ErrKind, {Kind: -1, Wood: 9}: api.ErrKind, {Kind: math.MaxInt}: api.ErrKind,
		{Kind: api.AskWhich, Wood: 3}: api.ErrMissing, {Kind: api.AskWhich, Wood: -1}: api.ErrMissing, {Kind: api.AskWhich, Wood: math.MinInt}: api.ErrMissing,
	}
	for _, kind := range []int{api.AskSame, api.AskNew, api.AskName, api.AskFirst, api.AskCount} {
		l[api.Ask{Kind: kind, Wood: 1}] = api.ErrForm
		l[api.Ask{Kind: kind, Wood: -1}] = api.ErrForm
	}
	return l
}

func TestDecidedOfTheExamples(t *testing.T) {
	ask := func(kind int) api.Ask { return api.Ask{Kind: kind} }
	unlike := told(mindM(), other(2, 0))
	for i, c := range []struct {
		m      api.Mind
		a      api.Ask
		answer []int
		is     bool
	}{
		{mindM(), ask(api.AskNew), []int{1}, true},
		{mindM(), ask(api.AskSame), nil, false},
		{mindM(), api.Ask{Kind: api.AskWhich, Wood: 2}, []int{1}, true},
		{mindM(), api.Ask{Kind: api.AskWhich, Wood: 0}, nil, false},
		{unlike, ask(api.AskSame), []int{0, 1, 2}, true},
		{unlike, ask(api.AskCount), []int{1, 1, 1}, true},
		{unlike, ask(api.AskName), nil, false},
		{unlike, ask(api.AskFirst), nil, false},
		// That there is none is an answer, too: that only c is left is not.
		{told(api.Mind{Game: example()}, not(0, 2), not(1, 2), not(2, 2)), ask(api.AskNew), nil, true},
		{api.Mind{Game: with(2, place(1), place(0), place(1))}, ask(api.AskFirst), []int{1, 0}, true},
	} {
		answer, is, e := know.Decided(c.m, c.a)
		if !slices.Equal(answer, c.answer) || is != c.is || e != api.OK {
			t.Error(i, answer, is, e)
		}
	}
	for a, want := range wrongAsks() {
		if answer, is, e := know.Decided(mindM(), a); len(answer) > 0 || is || e != want {
			t.Error(a, answer, is, e)
		}
	}
}

func TestDecidedOfManyMinds(t *testing.T) {
	decided, open := 0, 0
	for _, m := range minds(t, 300) {
		l, _ := judged(t, m.Mind)
		for _, a := range asks(m.Game) {
			want := must[[]int](t)(game.Due(m.Game, a, l[0]))
			unlike := slices.ContainsFunc(l, func(course []int) bool {
				return !slices.Equal(must[[]int](t)(game.Due(m.Game, a, course)), want)
			})
			if unlike {
				want = nil
				open++
			} else if len(l) > 1 {
				decided++
			}
			answer, is, e := know.Decided(m.Mind, a)
			if !slices.Equal(answer, want) || is == unlike || e != api.OK {
				t.Fatal(m, a, answer, is, e, want)
			}
		}
	}
	if min(decided, open) < 200 {
		t.Error(decided, open)
	}
}

// P4.5

func TestPointsOfTheExamples(t *testing.T) {
	const whole, each = api.PointWhole, api.PointEach
	ask := func(kind int) api.Ask { return api.Ask{Kind: kind} }
	for i, c := range []struct {
		a              api.Ask
		rule           int
		answer, course []int
		want           int
	}{
		{ask(api.AskName), each, []int{0, 2, 0}, []int{0, 2, 1}, 2},
		{ask(api.AskName), whole, []int{0, 2, 0}, []int{0, 2, 1}, 0},
		{ask(api.AskName), whole, []int{0, 2, 1}, []int{0, 2, 1}, 1},
		{ask(api.AskName), each, []int{math.MinInt, 9, 1}, []int{0, 2, 1}, 1},
		{ask(api.AskSame), each, []int{0, 1, 0}, []int{0, 2, 1}, 2},
		{ask(api.AskSame), each, []int{7, -7, 7}, []int{0, 2, 0}, 3},
		{ask(api.AskSame), each, []int{7, 7, 7}, []int{0, 2, 0}, 1},
		{ask(api.AskSame), whole, []int{7, -7, 7}, []int{0, 2, 0}, 0},
		{ask(api.AskSame), whole, []int{0, 1, 0}, []int{2, 1, 2}, 1},
		{ask(api.AskNew), each, []int{0, 1}, []int{0, 2, 0}, 2},
		{ask(api.AskNew), each, nil, []int{0, 1, 0}, 3},
		{ask(api.AskNew), whole, []int{}, []int{0, 1, 0}, 1},
		{ask(api.AskNew), each, []int{9, -1, 2, 2, 3}, []int{0, 1, 0}, 2},
		{ask(api.AskNew), each, []int{2, 1, 0}, []int{2, 2, 2}, 3},
		{ask(api.AskNew), whole, []int{2, 1, 0}, []int{2, 2, 2}, 0},
		{api.Ask{Kind: api.AskWhich, Wood: 1}, each, []int{1}, []int{0, 1, 0}, 3},
		{api.Ask{Kind: api.AskWhich, Wood: 1}, whole, []int{1, 1}, []int{0, 1, 0}, 0},
		{ask(api.AskFirst), each, []int{2, 0}, []int{2, 1, 0}, 1},
		{ask(api.AskFirst), each, []int{2, 1, 0, 5}, []int{2, 1, 2}, 2},
		{ask(api.AskFirst), whole, []int{2, 1, 0}, []int{2, 1, 2}, 0},
		{ask(api.AskFirst), each, nil, []int{2, 1, 2}, 0},
		{ask(api.AskCount), each, []int{2, 1, 0}, []int{0, 0, 2}, 1},
		// The game cannot take this course.
		{ask(api.AskCount), each, []int{0, -3, 3}, []int{2, 2, 2}, 2},
		{ask(api.AskCount), whole, []int{0, 0, 3}, []int{2, 2, 2}, 1},
	} {
		if n, e := know.Points(example(), c.a, c.rule, c.answer, c.course); n != c.want || e != api.OK {
			t.Error(i, n, e)
		}
	}
}

func TestPointsThatThereAreNot(t *testing.T) {
	name, course := api.Ask{Kind: api.AskName}, []int{0, 2, 1}
	for i, c := range []struct {
		g              api.Game
		a              api.Ask
		rule           int
		answer, course []int
		e              api.Errno
	}{
		{api.Game{}, api.Ask{}, 0, nil, nil, api.ErrShort},
		{with(1, place(1)), api.Ask{}, 0, nil, nil, api.ErrMissing},
		{example(), api.Ask{Kind: 9}, 3, nil, []int{0}, api.ErrKind},
		{example(), api.Ask{Kind: api.AskName, Wood: 1}, 3, nil, []int{9}, api.ErrForm},
		{example(), api.Ask{Kind: api.AskWhich, Wood: 3}, 3, nil, []int{9}, api.ErrMissing},
		{example(), name, 3, nil, []int{0, 2}, api.ErrForm},
		{example(), name, 3, nil, []int{0, 2, 3}, api.ErrMissing},
		{example(), name, 3, nil, course, api.ErrKind},
		{example(), name, 0, course, course, api.ErrKind},
		{example(), name, math.MinInt, course, course, api.ErrKind},
		{example(), name, math.MaxInt, course, course, api.ErrKind},
		{example(), name, api.PointEach, []int{0, 2}, course, api.ErrForm},
		{example(), name, api.PointEach, []int{0, 2, 1, 0}, course, api.ErrForm},
		{example(), name, api.PointWhole, nil, course, api.ErrForm},
		{example(), api.Ask{Kind: api.AskSame}, api.PointWhole, []int{0, 1, 2, 3}, course, api.ErrForm},
		{example(), api.Ask{Kind: api.AskSame}, api.PointEach, []int{}, course, api.ErrForm},
		{with(4, place(0), place(1)), api.Ask{Kind: api.AskCount}, api.PointEach, []int{1, 1}, []int{0, 1}, api.ErrForm},
		{with(4, place(0), place(1)), api.Ask{Kind: api.AskCount}, api.PointEach, []int{1, 1, 0, 0}, []int{0, 1}, api.OK},
		{with(4, place(0), place(1)), api.Ask{Kind: api.AskSame}, api.PointEach, []int{1, 1, 0, 0}, []int{0, 1}, api.ErrForm},
	} {
		n, e := know.Points(c.g, c.a, c.rule, c.answer, c.course)
		if e != c.e || e != api.OK && n != 0 {
			t.Error(i, n, e)
		}
	}
	// A game may have too many courses for a mind, but each of them has its points.
	if n, e := know.Points(over(), name, api.PointEach, []int{0, 1, 2, 3, 4}, []int{0, 1, 2, 4, 3}); n != 3 || e != api.OK {
		t.Error(n, e)
	}
}

func TestPointsOfManyAnswers(t *testing.T) {
	random := rand.New(rand.NewPCG(11, 13))
	for range 300 {
		g := aGame(random, 6, 100000)
		censers, woods := censersOf(t, g), len(g.Woods)
		for _, a := range asks(g) {
			course := make([]int, censers)
			for i := range course {
				course[i] = random.IntN(woods)
			}
			due := must[[]int](t)(game.Due(g, a, course))
			length := len(due)
			if a.Kind == api.AskNew || a.Kind == api.AskWhich || a.Kind == api.AskFirst {
				length = random.IntN(8)
			}
			answer := make([]int, length)
			for i := range answer {
				answer[i] = random.IntN(8) - 1
			}
			near := slices.Clone(due)
			if len(near) > 0 {
				near[random.IntN(len(near))] = random.IntN(3)
			}
			for _, rule := range rules() {
				for _, answer := range [][]int{answer, near, due} {
					if n := must[int](t)(know.Points(g, a, rule, answer, course)); n != worth(a, rule, censers, answer, due) {
						t.Fatal(g, a, rule, answer, course, n)
					}
				}
			}
		}
	}
}

// P4.6

func TestBestOfTheExamples(t *testing.T) {
	const whole, each = api.PointWhole, api.PointEach
	ask := func(kind int) api.Ask { return api.Ask{Kind: kind} }
	bare := api.Mind{Game: example()}
	lone := api.Mind{Game: with(3, mix(0, 1, 1), mix(0, 2, 1), pass(0, 1))}
	for i, c := range []struct {
		m       api.Mind
		a       api.Ask
		rule    int
		answer  []int
		sum, of int
	}{
		{mindM(), ask(api.AskSame), whole, []int{0, 1, 2}, 200, 340},
		{mindK(), ask(api.AskSame), whole, []int{0, 1, 0}, 980, 1820},
		{mindK(), ask(api.AskName), each, []int{0, 2, 0}, 4620, 1820},
		{mindM(), ask(api.AskSame), each, []int{0, 1, 2}, 880, 340},
		{mindM(), ask(api.AskNew), whole, []int{1}, 340, 340},
		{mindM(), ask(api.AskNew), each, []int{1}, 1020, 340},
		{bare, ask(api.AskSame), whole, []int{0, 1, 2}, 12, 24},
		{bare, ask(api.AskNew), whole, nil, 6, 24},
		{bare, ask(api.AskNew), each, nil, 54, 24},
		{bare, ask(api.AskCount), whole, []int{1, 1, 1}, 12, 24},
		// All answers are worth as much: the first one.
		{bare, ask(api.AskName), whole, []int{0, 0, 1}, 2, 24},
		{lone, ask(api.AskName), whole, []int{1}, 1, 2},
		{lone, ask(api.AskSame), whole, []int{0}, 2, 2},
		// There are no pairs: the first answer, for nothing.
		{lone, ask(api.AskSame), each, []int{0}, 0, 2},
		// An answer that is due in no course left may be the best one: of three packets of two woods two pairs are unlike, most of the time, but never all three.
		{told(api.Mind{Game: with(3, mix(0, 0, 3), mix(0, 1, 3), mix(0, 2, 1), pass(0, 3))}, not(0, 2), not(1, 2), not(2, 2)), ask(api.AskSame), each, []int{0, 1, 2}, 216, 120},
	} {
		answer, sum, of := bestOf(t, c.m, c.a, c.rule)
		if !slices.Equal(answer, c.answer) || sum != c.sum || of != c.of {
			t.Error(i, answer, sum, of)
		}
	}
}

func TestBestThatThereIsNot(t *testing.T) {
	check := func(a api.Ask, rule int, want api.Errno) {
		t.Helper()
		if answer, sum, of, e := know.Best(mindM(), a, rule); len(answer) > 0 || sum != 0 || of != 0 || e != want {
			t.Error(a, rule, answer, sum, of, e)
		}
	}
	for a, want := range wrongAsks() {
		for _, rule := range []int{0, 1, 2, 3} {
			check(a, rule, want)
		}
	}
	for _, rule := range []int{0, 3, -1, math.MinInt, math.MaxInt} {
		check(api.Ask{Kind: api.AskSame}, rule, api.ErrKind)
		check(api.Ask{Kind: api.AskWhich, Wood: 2}, rule, api.ErrKind)
	}
}

// judgedBest returns the best answer, and what it is worth, by a look at each answer in each course.
func judgedBest(t *testing.T, m api.Mind, a api.Ask, rule int) (answer []int, sum, of int) {
	t.Helper()
	l, weights := judged(t, m)
	sum = -1
	for _, x := range answersOf(t, m.Game, a) {
		s := 0
		for i, course := range l {
			s += weights[i] * worth(a, rule, len(course), x, must[[]int](t)(game.Due(m.Game, a, course)))
		}
		if s > sum {
			answer, sum = x, s
		}
	}
	for _, weight := range weights {
		of += weight
	}
	return answer, sum, of
}

func TestBestOfManyMinds(t *testing.T) {
	for _, m := range minds(t, 300) {
		for _, a := range asks(m.Game) {
			for _, rule := range rules() {
				answer, sum, of := bestOf(t, m.Mind, a, rule)
				want, s, o := judgedBest(t, m.Mind, a, rule)
				if !slices.Equal(answer, want) || sum != s || of != o {
					t.Fatal(m, a, rule, answer, sum, of, want, s, o)
				}
			}
		}
	}
}

// As many courses, and answers, as there may be.
func TestBestOfManyCourses(t *testing.T) {
	m := api.Mind{Game: brim(), Noses: []api.Nose{dull(2, 2, 2, 2, 2)}, Smells: []api.Smell{{Censer: 3}}}
	l, weights := leftOf(t, m)
	if len(l) != api.MaxCourses {
		t.Fatal(len(l))
	}
	answer, sum, of := bestOf(t, m, api.Ask{Kind: api.AskName}, api.PointWhole)
	most := slices.Max(weights)
	if !slices.Equal(answer, l[slices.Index(weights, most)]) || sum != most {
		t.Error(answer, sum)
	}
	each := 0
	for i, course := range l {
		each += weights[i] * worth(api.Ask{Kind: api.AskName}, api.PointEach, 7, []int{0, 1, 0, 0, 0, 1, 1}, course)
	}
	if answer, best, all := bestOf(t, m, api.Ask{Kind: api.AskName}, api.PointEach); best < each || all != of {
		t.Error(answer, best, all, each)
	}
}

// P4.7

func TestSkillsOfTheExamples(t *testing.T) {
	const whole, each = api.PointWhole, api.PointEach
	ask := func(kind int) api.Ask { return api.Ask{Kind: kind} }
	one := with(2, mix(0, 0, 3), mix(0, 1, 1), pass(0, 1))
	half := api.Nose{Take: [][]int{{8, 2}, {4, 6}}}
	for i, c := range []struct {
		g       api.Game
		n       api.Nose
		a       api.Ask
		rule    int
		sum, of int
	}{
		{example(), nose(), ask(api.AskNew), whole, 24000, 24000},
		{example(), dull(10, 0, 0), ask(api.AskSame), whole, 12000, 24000},
		{example(), dull(3, 3, 4), ask(api.AskNew), each, 54000, 24000},
		{example(), sharp(3), ask(api.AskName), whole, 24000, 24000},
		// If a is smelled (24 of 40 times from a, 4 from b), a is best; if b is (6 and 6), either.
		{one, half, ask(api.AskName), whole, 30, 40},
		{one, api.Nose{Take: [][]int{{8, 2}, {2, 8}}}, ask(api.AskName), whole, 32, 40},
		{one, half, ask(api.AskSame), each, 0, 40},
		{with(1, slices.Repeat([]api.Deal{place(0)}, 8)...), sharp(1), ask(api.AskName), each, 800000000, 100000000},
	} {
		if sum, of := skillOf(t, c.g, c.n, c.a, c.rule); sum != c.sum || of != c.of {
			t.Error(i, sum, of)
		}
	}
}

func TestSkillsThatThereAreNot(t *testing.T) {
	name, full := api.Ask{Kind: api.AskName}, api.ErrFull
	places := func(woods, n int) api.Game { return with(woods, slices.Repeat([]api.Deal{place(0)}, n)...) }
	for i, c := range []struct {
		g    api.Game
		n    api.Nose
		a    api.Ask
		rule int
		e    api.Errno
	}{
		{api.Game{}, api.Nose{}, api.Ask{}, 0, api.ErrShort},
		{with(1, api.Deal{}), api.Nose{}, api.Ask{}, 0, api.ErrKind},
		{over(), api.Nose{}, api.Ask{}, 0, full},
		{example(), api.Nose{}, api.Ask{}, 0, api.ErrForm},
		{example(), sharp(2), api.Ask{}, 0, api.ErrForm},
		{example(), dull(11, 0, 0), api.Ask{}, 0, api.ErrRange},
		{example(), dull(3, 3, 3), api.Ask{}, 0, api.ErrForm},
		{example(), nose(), api.Ask{}, 0, api.ErrKind},
		{example(), nose(), api.Ask{Kind: api.AskName, Wood: 1}, 0, api.ErrForm},
		{example(), nose(), api.Ask{Kind: api.AskWhich, Wood: 3}, 0, api.ErrMissing},
		{example(), nose(), name, 0, api.ErrKind},
		{example(), nose(), name, 3, api.ErrKind},
		{example(), nose(), name, math.MinInt, api.ErrKind},
		// The errors of all else come before that there is too much.
		{places(1, 9), sharp(2), api.Ask{}, 0, api.ErrForm},
		{places(1, 9), sharp(1), api.Ask{}, 0, api.ErrKind},
		{places(1, 9), sharp(1), api.Ask{Kind: api.AskWhich, Wood: 1}, 0, api.ErrMissing},
		{places(6, 9), sharp(6), name, 3, api.ErrKind},
		{places(1, 9), sharp(1), name, 1, full},
		{places(2, 9), sharp(2), name, 1, full},
		{places(6, 9), sharp(6), name, 1, full},
		{places(6, 4), sharp(6), name, 1, full},
		{places(5, 5), sharp(5), name, 1, full},
		{places(4, 5), sharp(4), name, 1, full},
		{places(3, 7), sharp(3), name, 1, full},
		{places(1, 8), sharp(1), name, 1, api.OK},
		{places(2, 8), sharp(2), name, 1, api.OK},
		{places(3, 6), sharp(3), name, 1, api.OK},
		{places(4, 4), sharp(4), name, 1, api.OK},
		{places(5, 4), sharp(5), name, 1, api.OK},
		{places(6, 3), sharp(6), name, 1, api.OK},
	} {
		sum, of, e := know.Skill(c.g, c.n, c.a, c.rule)
		if e != c.e || (e == api.OK) != (sum > 0) || (e == api.OK) != (of > 0) {
			t.Error(i, sum, of, e)
		}
	}
}

// nosed is a game, and a nose for it.
type nosed struct {
	api.Game
	api.Nose
}

// noses returns so many games, each with a nose, in which at most so many lists of woods may be smelled.
func noses(t *testing.T, count, most int) []nosed {
	t.Helper()
	random := rand.New(rand.NewPCG(17, 19))
	var l []nosed
	for len(l) < count {
		g := aGame(random, 4, 400)
		if power(len(g.Woods), censersOf(t, g)) <= most {
			l = append(l, nosed{g, aNose(random, len(g.Woods))})
		}
	}
	return l
}

// What a nose is worth is what the best answers to all that it may smell are worth together.
func TestSkillsOfManyNoses(t *testing.T) {
	for _, c := range noses(t, 60, 81) {
		for _, a := range asks(c.Game) {
			for _, rule := range rules() {
				want, all := 0, 0
				for smelled := range woodLists(len(c.Woods), censersOf(t, c.Game)) {
					m := api.Mind{Game: c.Game, Noses: []api.Nose{c.Nose}}
					for censer, wood := range smelled {
						m.Smells = append(m.Smells, api.Smell{Censer: censer, Wood: wood})
					}
					_, best, of, e := know.Best(m, a, rule)
					if e != api.OK && e != api.ErrClash {
						t.Fatal(m, e)
					}
					want, all = want+best, all+of
				}
				if sum, of := skillOf(t, c.Game, c.Nose, a, rule); sum != want || of != all {
					t.Fatal(c, a, rule, sum, of, want, all)
				}
			}
		}
	}
}
