package store_test

import (
	"math/rand/v2"
	"slices"
	"testing"

	"aloeswood/api"
	"aloeswood/chart"
	"aloeswood/store"
)

// last is the last day of the small chains of these tests.
const last = 9

// P9.1, P9.2, P9.7: all stories of small chains are looked at. Each day lies within Days, each holder is one of Holders, and all that these name is so in a story.
func TestAllStoriesOfSmallChains(t *testing.T) {
	random := rand.New(rand.NewPCG(1, 9))
	valid, clash, several := 0, 0, 0
	for range 3000 {
		c := someChain(random, 5, 2+random.IntN(2), last)
		want, is := toldBy(c, last+1)
		if !is {
			clash++
			if e := store.CheckChain(c); e != api.ErrClash {
				t.Fatal(c, e)
			}
			continue
		}
		valid++
		orders := must[[][]int](t)(store.Orders(c))
		if days := daysOf(t, c); !equal(orders, want.orders) || !slices.Equal(days, want.days) {
			t.Fatal(c, orders, want.orders, days, want.days)
		}
		if len(orders) > 1 {
			several++
		}
		for day, holders := range want.holders {
			if l := must[[]int](t)(store.Holders(c, day)); !slices.Equal(l, holders) {
				t.Fatal(c, day, l, holders)
			}
			for owner := range 4 {
				if verdict := must[int](t)(store.Owned(c, owner, day)); verdict != verdictOf(holders, owner) {
					t.Fatal(c, day, owner, verdict)
				}
			}
		}
	}
	if valid < 500 || clash < 500 || several < 50 {
		t.Error(valid, clash, several)
	}
}

// Chains whose links lead anywhere have a story just if there is one among all stories.
func TestLinksThatLeadAnywhere(t *testing.T) {
	random := rand.New(rand.NewPCG(2, 9))
	said := map[api.Errno]int{}
	for range 20000 {
		c := api.Chain{Maker: random.IntN(3), Made: narrow(random, span(0, 3))}
		for range random.IntN(4) {
			from := random.IntN(3)
			c.Links = append(c.Links, link(from, (from+1+random.IntN(2))%3, narrow(random, span(0, 6))))
		}
		want := api.ErrClash
		if _, is := toldBy(c, 0); is {
			want = api.OK
		}
		if e := store.CheckChain(c); e != want {
			t.Fatal(c, e, want)
		}
		said[want]++
	}
	if said[api.OK] < 1000 || said[api.ErrClash] < 1000 {
		t.Error(said)
	}
}

// P9.7: in the orders of longer chains, the first link is from the Maker, and each other one from the owner to whom the one before it went; with all days as early as can be, or as late, there is a story, and it reaches the ends of Days.
func TestEndsOfDaysOfLongChains(t *testing.T) {
	for _, c := range chains(3, 1500, 7, 4, 40) {
		known := daysOf(t, c)
		reached := slices.Repeat([]api.Span{span(1000, -1)}, len(known))
		reach := func(event, day int) {
			if day < known[event].Lo || day > known[event].Hi {
				t.Fatal(c, event, day, known)
			}
			reached[event].Lo, reached[event].Hi = min(reached[event].Lo, day), max(reached[event].Hi, day)
		}
		for _, order := range must[[][]int](t)(store.Orders(c)) {
			if !leads(c, order) {
				t.Fatal(c, order)
			}
			day := c.Made.Lo
			reach(0, day)
			for _, i := range order {
				day = max(day+1, c.Links[i].Day.Lo)
				reach(1+i, day)
			}
			day = api.MaxDate + 1
			for _, i := range slices.Backward(order) {
				day = min(day-1, c.Links[i].Day.Hi)
				reach(1+i, day)
			}
			reach(0, min(day-1, c.Made.Hi))
		}
		if !slices.Equal(known, reached) {
			t.Fatal(c, known, reached)
		}
	}
}

// P9.8: an owner is Sure on a day just if Holders has only this one; the holders of a day behind all links are those to whom the last link of an order goes.
func TestVerdictsAboutHolders(t *testing.T) {
	said := map[int]int{}
	several := 0
	for _, c := range chains(4, 400, 7, 3, 30) {
		for day := range 33 {
			holders := must[[]int](t)(store.Holders(c, day))
			for owner := range api.MaxOwners {
				verdict := must[int](t)(store.Owned(c, owner, day))
				if is := slices.Equal(holders, []int{owner}); is != (verdict == api.Sure) || verdict != verdictOf(holders, owner) {
					t.Fatal(c, day, owner, verdict, holders)
				}
				said[verdict]++
			}
		}
		ends := map[int]bool{}
		for _, order := range must[[][]int](t)(store.Orders(c)) {
			if len(order) == 0 {
				ends[c.Maker] = true
			} else {
				ends[c.Links[order[len(order)-1]].To] = true
			}
		}
		for _, day := range []int{30, 31, api.MaxDate} {
			holders := must[[]int](t)(store.Holders(c, day))
			if len(holders) != len(ends) || slices.ContainsFunc(holders, func(holder int) bool { return !ends[holder] }) {
				t.Fatal(c, day, holders, ends)
			}
		}
		// An order ends where all others end, as each owner has as many links to it in all of them.
		several += len(ends) - 1
	}
	if said[api.Sure] < 1000 || said[api.Open] < 1000 || several != 0 {
		t.Error(said, several)
	}
}

// P9.9: with a narrower Made and narrower Days, as long as there is a story, there are no new orders, Days is not wider, and there are no new holders.
func TestNarrowerDays(t *testing.T) {
	random := rand.New(rand.NewPCG(5, 9))
	fewer, less, clash := 0, 0, 0
	for _, c := range chains(6, 2000, 7, 3, 20) {
		closer := copied(c)
		if random.IntN(2) == 0 {
			closer.Made = narrow(random, c.Made)
		}
		for i := range closer.Links {
			if random.IntN(2) == 0 {
				closer.Links[i].Day = narrow(random, c.Links[i].Day)
			}
		}
		if e := store.CheckChain(closer); e != api.OK {
			clash++
			continue
		}
		orders, left := must[[][]int](t)(store.Orders(c)), must[[][]int](t)(store.Orders(closer))
		for _, order := range left {
			if !slices.ContainsFunc(orders, func(before []int) bool { return slices.Equal(before, order) }) {
				t.Fatal(c, closer, order)
			}
		}
		known := daysOf(t, c)
		for i, days := range daysOf(t, closer) {
			if days.Lo < known[i].Lo || days.Hi > known[i].Hi {
				t.Fatal(c, closer, i, days, known[i])
			}
		}
		if len(left) < len(orders) {
			fewer++
		}
		for day := range 22 {
			holders, others := must[[]int](t)(store.Holders(c, day)), must[[]int](t)(store.Holders(closer, day))
			for _, holder := range others {
				if !slices.Contains(holders, holder) {
					t.Fatal(c, closer, day, holders, others)
				}
			}
			if len(others) < len(holders) {
				less++
			}
		}
	}
	if fewer < 20 || less < 500 || clash < 100 {
		t.Error(fewer, less, clash)
	}
}

// P9.2: a chain with one link more is that chain, if it has a story, and else there is its error.
func TestLinksThatAreAdded(t *testing.T) {
	random := rand.New(rand.NewPCG(7, 9))
	said := map[api.Errno]int{}
	for _, c := range chains(8, 3000, 7, 3, 20) {
		from := random.IntN(3)
		l := link(from, (from+random.IntN(3))%3, narrow(random, span(0, 25)))
		want := copied(c)
		want.Links = append(want.Links, l)
		e := store.CheckChain(want)
		if e != api.OK {
			want = api.Chain{}
		}
		if got, f := store.Add(c, l); f != e || !same(got, want) {
			t.Fatal(c, l, got, f, want, e)
		}
		said[e]++
	}
	for _, e := range []api.Errno{api.OK, api.ErrClash, api.ErrForm, api.ErrFull} {
		if said[e] < 100 {
			t.Error(said)
		}
	}
}

// P9.3, P9.10: no two loans of Lend contradict each other, and no list is worth more, nor as much with fewer loans, nor comes earlier with as many: all are looked at. With one more loan they are not worth less.
func TestAllListsOfLoans(t *testing.T) {
	random := rand.New(rand.NewPCG(9, 9))
	sizes, more := map[int]int{}, 0
	for range 2500 {
		l := someLoans(random, 9)
		list, worth, e := store.Lend(l)
		want, wantWorth := lentOf(l)
		if e != api.OK || !slices.Equal(list, want) || worth != wantWorth || worth != worthOf(l, list) {
			t.Fatal(l, list, worth, e, want, wantWorth)
		}
		for i, one := range list {
			for _, other := range list[:i] {
				if other >= one || contradict(l[one], l[other]) {
					t.Fatal(l, list)
				}
			}
		}
		sizes[len(list)]++
		longer := append(slices.Clone(l), loan(random.IntN(3), random.IntN(5), 5+random.IntN(9), random.IntN(9)))
		_, now, e := store.Lend(longer)
		if e != api.OK || now < worth {
			t.Fatal(longer, worth, now, e)
		}
		if now > worth {
			more++
		}
	}
	for size := range 6 {
		if sizes[size] < 20 {
			t.Error(sizes)
		}
	}
	if more < 300 {
		t.Error(more)
	}
}

// Twelve loans are looked at just as fewer are.
func TestAllListsOfManyLoans(t *testing.T) {
	random := rand.New(rand.NewPCG(10, 9))
	for range 60 {
		l := someLoans(random, 12)
		for len(l) < api.MaxLoans {
			l = append(l, someLoans(random, api.MaxLoans-len(l))...)
		}
		list, worth, e := store.Lend(l)
		if want, wantWorth := lentOf(l); e != api.OK || !slices.Equal(list, want) || worth != wantWorth {
			t.Fatal(l, list, worth, e, want, wantWorth)
		}
	}
}

// P9.4: combinations are numbered in lexicographic order; what Repeats says is so of all plans.
func TestRepeatsOfAllPlans(t *testing.T) {
	random := rand.New(rand.NewPCG(11, 9))
	counts := map[int]int{}
	for _, s := range seasons(12, 800, 2, 5, 5) {
		for number, want := range combinationsOf(s) {
			if l := must[[]int](t)(store.Combination(s, number)); !slices.Equal(l, want) {
				t.Fatal(s, number, l, want)
			}
		}
		for _, plan := range allPlans(s, random.IntN(len(s.Gatherings)+1)) {
			gathering, guest, many, e := store.Repeats(s, plan)
			want := append(allRepeats(s, plan), repeat{-1, -1})
			if e != api.OK || (repeat{gathering, guest}) != want[0] || many != len(want)-1 {
				t.Fatal(s, plan, gathering, guest, many, e, want)
			}
			counts[min(many, 4)]++
		}
	}
	for many := range 5 {
		if counts[many] < 200 {
			t.Error(counts)
		}
	}
}

// P9.5, P9.11: a plan of Plan has no repeats, there is no longer one, and none of its length comes before it: all plans are looked at.
func TestPlansAmongAllPlans(t *testing.T) {
	short := 0
	for _, s := range append(seasons(13, 500, 3, 4, 5), seasons(14, 500, 2, 5, 4)...) {
		plan := must[[]int](t)(store.Plan(s))
		if want := planOf(s); !slices.Equal(plan, want) || repeatsOf(t, s, plan) != 0 {
			t.Fatal(s, plan, want)
		}
		if len(plan) < len(s.Gatherings) {
			short++
		}
	}
	if short < 200 {
		t.Error(short)
	}
}

// P9.5, P9.12: no plan of all gatherings has fewer repeats than that of Fewest, and none that has as few comes before it: all plans are looked at.
func TestFewestAmongAllPlans(t *testing.T) {
	counts := map[int]int{}
	for _, s := range append(seasons(15, 600, 3, 4, 5), seasons(16, 800, 2, 5, 4)...) {
		plan, many := fewestOf(t, s)
		if want, least := leastOf(s); !slices.Equal(plan, want) || many != least {
			t.Fatal(s, plan, many, want, least)
		}
		counts[min(many, 3)]++
	}
	for many := range 4 {
		if counts[many] < 50 {
			t.Error(counts)
		}
	}
}

// P9.11, P9.12: with one more thing of a sort a plan is not shorter, and there are no more repeats; there are none just if Plan has all gatherings.
func TestOneThingMore(t *testing.T) {
	random := rand.New(rand.NewPCG(17, 9))
	longer, fewer := 0, 0
	for _, s := range seasons(18, 1200, 2, 9, 8) {
		plan := must[[]int](t)(store.Plan(s))
		fewest, many := fewestOf(t, s)
		if len(fewest) != len(s.Gatherings) || many != repeatsOf(t, s, fewest) || (many == 0) != (len(plan) == len(s.Gatherings)) || many == 0 && !slices.Equal(plan, fewest) {
			t.Fatal(s, plan, fewest, many)
		}
		if first := repeatsOf(t, s, plan); first != 0 {
			t.Fatal(s, plan, first)
		}
		more := api.Season{Sorts: slices.Clone(s.Sorts), Gatherings: s.Gatherings}
		more.Sorts[random.IntN(len(more.Sorts))]++
		now := must[[]int](t)(store.Plan(more))
		_, left := fewestOf(t, more)
		if len(now) < len(plan) || left > many {
			t.Fatal(s, more, plan, now, many, left)
		}
		if len(now) > len(plan) {
			longer++
		}
		if left < many {
			fewer++
		}
	}
	if longer < 200 || fewer < 200 {
		t.Error(longer, fewer)
	}
}

// P9.13: a guest who comes to more gatherings than there are combinations has a repeat in each plan of all of them; without repeats each guest's combinations are different.
func TestGuestsWhoComeOften(t *testing.T) {
	often := 0
	for _, s := range seasons(19, 1500, 2, 9, 6) {
		comes := map[int]int{}
		most := 0
		for _, guests := range s.Gatherings {
			for _, guest := range guests {
				comes[guest]++
				most = max(most, comes[guest])
			}
		}
		_, many := fewestOf(t, s)
		plan := must[[]int](t)(store.Plan(s))
		if most > combinations(s) {
			often++
			if many == 0 || len(plan) == len(s.Gatherings) {
				t.Fatal(s, many, plan)
			}
		}
		met := map[[2]int]bool{}
		for i, combination := range plan {
			for _, guest := range s.Gatherings[i] {
				if met[[2]int{guest, combination}] {
					t.Fatal(s, plan, guest)
				}
				met[[2]int{guest, combination}] = true
			}
		}
	}
	if often < 200 {
		t.Error(often)
	}
}

// P9.13: in each plan of all gatherings, not only in the best one, whoever comes too often has a repeat.
func TestGuestsWhoComeTooOften(t *testing.T) {
	for things := 1; things <= 3; things++ {
		var s api.Season
		s.Sorts = []int{things}
		for i := range things + 1 {
			s.Gatherings = append(s.Gatherings, []int{7, i})
		}
		for _, plan := range allPlans(s, things+1) {
			if repeatsOf(t, s, plan) == 0 {
				t.Error(s, plan)
			}
		}
	}
}

// P9.6, P9.14: a chain is read from its box, and what is read is written as it was.
func TestBoxesOfChains(t *testing.T) {
	for _, c := range slices.Concat(chains(20, 1000, 7, 4, 20), chains(21, 1000, 7, 20, 300), chains(22, 1000, 7, 20, api.MaxDate)) {
		text := must[string](t)(store.Write(c))
		back, row, e := store.Read(text)
		if !same(back, c) || row != 0 || e != api.OK {
			t.Fatal(c, text, back, row, e)
		}
		if again := must[string](t)(store.Write(back)); again != text {
			t.Fatal(text, again)
		}
	}
}

// T1: the plan of a season is a partition of its gatherings, which is drawn and read back as it was.
func TestPlansAreDrawn(t *testing.T) {
	drawn := map[int]int{}
	for _, s := range seasons(23, 600, 3, 9, 8) {
		fewest, _ := fewestOf(t, s)
		for _, plan := range [][]int{must[[]int](t)(store.Plan(s)), fewest} {
			if len(plan) == 0 {
				continue
			}
			if e := chart.Check(plan); e != api.OK {
				t.Fatal(s, plan, e)
			}
			text := must[string](t)(chart.Draw(plan))
			if back := must[[]int](t)(chart.Read(text)); !slices.Equal(back, plan) {
				t.Fatal(s, plan, text, back)
			}
			drawn[len(plan)]++
		}
	}
	for length := 1; length <= api.MaxGatherings; length++ {
		if drawn[length] < 20 {
			t.Error(drawn)
		}
	}
}

// T8: each plan is a partition of its gatherings, and a finer plan has no more repeats; nor does it matter how combinations are numbered.
func TestFinerPlans(t *testing.T) {
	random := rand.New(rand.NewPCG(24, 9))
	fewer := 0
	for _, s := range seasons(25, 3000, 6, 9, 8) {
		s.Sorts = []int{6, 2}
		if len(s.Gatherings) == 0 {
			continue
		}
		var plan, other []int
		for range s.Gatherings {
			plan, other = append(plan, random.IntN(4)), append(other, random.IntN(3))
		}
		p := must[[]int](t)(chart.Of(plan))
		finer := must[[]int](t)(chart.Meet(p, must[[]int](t)(chart.Of(other))))
		if is := must[bool](t)(chart.Finer(finer, p)); !is {
			t.Fatal(finer, p)
		}
		many := repeatsOf(t, s, plan)
		left := repeatsOf(t, s, finer)
		if repeatsOf(t, s, p) != many || left > many {
			t.Fatal(s, plan, finer, many, left)
		}
		if left < many {
			fewer++
		}
	}
	if fewer < 500 {
		t.Error(fewer)
	}
}
