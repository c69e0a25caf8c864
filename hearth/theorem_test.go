package hearth_test

import (
	"math/rand/v2"
	"slices"
	"testing"

	"aloeswood/api"
	"aloeswood/hearth"
)

// last is up to which minute the fires of these tests are looked at.
const last = 60

// P7.5, P7.6: all true numbers of small fires are looked at. Each beginning lies within what is known, both ends are reached, and the heats lie within.
func TestAllTruthsOfSmallFires(t *testing.T) {
	random := rand.New(rand.NewPCG(1, 7))
	loose, lost := 0, 0
	for range 600 {
		f := someFire(random, 4)
		// Few enough to look at all of them.
		for i := range f.Coals {
			f.Coals[i].Catch.Hi = min(f.Coals[i].Catch.Hi, f.Coals[i].Catch.Lo+2)
			f.Coals[i].Burn.Hi = min(f.Coals[i].Burn.Hi, f.Coals[i].Burn.Lo+2)
		}
		known := must[[]api.Span](t)(hearth.Begins(f))
		warm := heats(t, f, last)
		reached := slices.Repeat([]api.Span{none()}, len(f.Coals))
		for l := range truths(f) {
			begins := truly(f, l)
			for i, minute := range begins {
				reached[i] = both(reached[i], one(minute))
			}
			for minute, heat := range warm {
				if heatThen(begins, l, minute) < heat.Lo {
					t.Fatal(f, l, minute, heat)
				}
			}
		}
		if !slices.Equal(reached, known) {
			t.Fatal(f, reached, known)
		}
		for _, s := range known {
			if s.Lo != s.Hi && s.Hi != api.Unlit {
				loose++
			}
			if s.Lo != api.Unlit && s.Hi == api.Unlit {
				lost++
			}
		}
	}
	if loose < 50 || lost < 50 {
		t.Error(loose, lost)
	}
}

// P7.5: however large fires truly burn, all lies within what is known.
func TestTruthsOfFires(t *testing.T) {
	random := rand.New(rand.NewPCG(2, 7))
	ends := 0
	for _, s := range settings(3, 400, 12, last) {
		f := s.f
		known := must[[]api.Span](t)(hearth.Begins(f))
		warm := heats(t, f, last)
		for range 30 {
			l := someTruth(random, f)
			begins := truly(f, l)
			for i, minute := range begins {
				if !has(known[i], minute) {
					t.Fatal(f, l, i, minute, known[i])
				}
			}
			for minute, heat := range warm {
				given := heatThen(begins, l, minute)
				if !has(heat, given) {
					t.Fatal(f, l, minute, given, heat)
				}
				if heat.Lo < heat.Hi && (given == heat.Lo || given == heat.Hi) {
					ends++
				}
			}
		}
	}
	if ends < 1000 {
		t.Error(ends)
	}
}

// P7.6: the least Catches and the greatest Burns reach the one end of each beginning, the greatest Catches and the least Burns the other one.
func TestBothEndsOfBeginningsAreReached(t *testing.T) {
	for _, s := range settings(4, 3000, 12, last) {
		f := s.f
		known := must[[]api.Span](t)(hearth.Begins(f))
		var soon, late []truth
		for _, c := range f.Coals {
			soon = append(soon, truth{catch: c.Catch.Lo, burn: c.Burn.Hi})
			late = append(late, truth{catch: c.Catch.Hi, burn: c.Burn.Lo})
		}
		soonest, latest := truly(f, soon), truly(f, late)
		for i, s := range known {
			if s != span(soonest[i], latest[i]) {
				t.Fatal(f, known, soonest, latest)
			}
		}
	}
}

// P7.1: what is known of the heat is what the chapter says, coal by coal.
func TestHeatsOfCoals(t *testing.T) {
	for _, s := range settings(5, 500, 12, last) {
		f := s.f
		begins := must[[]api.Span](t)(hearth.Begins(f))
		for minute, heat := range heats(t, f, last) {
			var sum api.Span
			for i, c := range f.Coals {
				if begins[i].Hi <= minute && begins[i].Lo+c.Burn.Lo > minute {
					sum.Lo += c.Heat.Lo
				}
				if begins[i].Lo <= minute && (begins[i].Hi == api.Unlit || begins[i].Hi+c.Burn.Hi > minute) {
					sum.Hi += c.Heat.Hi
				}
			}
			if heat != sum {
				t.Fatal(f, minute, heat, sum)
			}
		}
	}
}

// P7.2, P7.7: what is known of the warmth is all that the steps may give, and no more.
func TestWarmthsAreAllThatMayBe(t *testing.T) {
	loose, poured := 0, 0
	for _, s := range settings(6, 250, 3, 8) {
		k, f, l := s.k, s.f, s.l
		minutes := 8
		// Few enough to look at all warmths and heats.
		k.Warm.Hi = min(k.Warm.Hi, k.Warm.Lo+40)
		for i := range f.Coals {
			f.Coals[i].Heat.Hi = min(f.Coals[i].Heat.Hi, f.Coals[i].Heat.Lo+9)
		}
		got := must[[]api.Span](t)(hearth.Run(k, f, l, minutes))
		if want := warmths(k, heats(t, f, minutes), l); !slices.Equal(got, want) {
			t.Fatal(k, f, l, got, want)
		}
		if got[minutes].Lo != got[minutes].Hi {
			loose++
		}
		poured += len(l)
	}
	if loose < 50 || poured < 100 {
		t.Error(loose, poured)
	}
}

// P7.7: however warm the water truly is, it lies within what is known, and verdicts that are not open are so.
func TestTruthsOfWater(t *testing.T) {
	random := rand.New(rand.NewPCG(8, 7))
	said := map[int]int{}
	for _, s := range settings(9, 600, 8, last) {
		k, f, l := s.k, s.f, s.l
		known := must[[]api.Span](t)(hearth.Run(k, f, l, last))
		verdicts := must[[]int](t)(hearth.Sings(k, f, l, last))
		for range 10 {
			coals := someTruth(random, f)
			begins := truly(f, coals)
			var heats []int
			for minute := range last + 1 {
				heats = append(heats, heatThen(begins, coals, minute))
			}
			for minute, warmth := range trulyWarm(random, k, heats, l) {
				sings := k.Sing <= warmth && warmth <= k.Boil
				if !has(known[minute], warmth) || verdicts[minute] == api.Sure && !sings || verdicts[minute] == api.Never && sings {
					t.Fatal(k, f, l, minute, warmth, known[minute], verdicts[minute])
				}
				said[verdicts[minute]]++
			}
		}
	}
	for _, verdict := range []int{api.Sure, api.Never, api.Open} {
		if said[verdict] < 5000 {
			t.Error(said)
		}
	}
}

// P7.2: verdicts say of what is known whether the kettle sings with all of it, with none of it, or with some; When names the first ones.
func TestVerdictsOfWhatIsKnown(t *testing.T) {
	found := map[bool]int{}
	for _, s := range settings(10, 600, 8, last) {
		k, f, l := s.k, s.f, s.l
		verdicts := must[[]int](t)(hearth.Sings(k, f, l, last))
		var want []int
		for _, warm := range must[[]api.Span](t)(hearth.Run(k, f, l, last)) {
			with, without := false, false
			for warmth := warm.Lo; warmth <= warm.Hi; warmth++ {
				sings := k.Sing <= warmth && warmth <= k.Boil
				with, without = with || sings, without || !sings
			}
			switch {
			case !without:
				want = append(want, api.Sure)
			case !with:
				want = append(want, api.Never)
			default:
				want = append(want, api.Open)
			}
		}
		sure, perhaps, e := hearth.When(k, f, l, last)
		isNotNever := func(verdict int) bool { return verdict != api.Never }
		if !slices.Equal(verdicts, want) || e != api.OK || sure != slices.Index(want, api.Sure) || perhaps != slices.IndexFunc(want, isNotNever) {
			t.Fatal(k, f, l, verdicts, want, sure, perhaps, e)
		}
		found[sure >= 0]++
	}
	if found[true] < 50 || found[false] < 50 {
		t.Error(found)
	}
}

// What is known of some minutes does not depend on how many minutes are asked for.
func TestFewerMinutes(t *testing.T) {
	for _, s := range settings(11, 60, 8, last) {
		k, f, l := s.k, s.f, s.l
		whole := must[[]api.Span](t)(hearth.Run(k, f, l, last))
		for minutes := range last + 1 {
			if part := must[[]api.Span](t)(hearth.Run(k, f, l, minutes)); !slices.Equal(part, whole[:minutes+1]) {
				t.Fatal(k, f, l, minutes, part, whole)
			}
		}
	}
}

// P7.8: with narrower spans nothing that is known is wider, and verdicts stay.
func TestNarrowerSpans(t *testing.T) {
	random := rand.New(rand.NewPCG(12, 7))
	stay, told := 0, 0
	for _, s := range settings(13, 1500, 8, last) {
		k, f, l := s.k, s.f, s.l
		closer, few := k, copied(f)
		closer.Warm = narrow(random, k.Warm)
		for i, c := range f.Coals {
			for _, field := range []func(c *api.Coal) *api.Span{
				func(c *api.Coal) *api.Span { return &c.Catch }, func(c *api.Coal) *api.Span { return &c.Burn }, func(c *api.Coal) *api.Span { return &c.Heat },
			} {
				if random.IntN(2) == 0 {
					*field(&few.Coals[i]) = narrow(random, *field(&c))
				}
			}
		}
		begins, ends := must[[]api.Span](t)(hearth.Begins(f)), must[[]api.Span](t)(hearth.Begins(few))
		wide, fewer := heats(t, f, last), heats(t, few, last)
		known, better := must[[]api.Span](t)(hearth.Run(k, f, l, last)), must[[]api.Span](t)(hearth.Run(closer, few, l, last))
		verdicts, others := must[[]int](t)(hearth.Sings(k, f, l, last)), must[[]int](t)(hearth.Sings(closer, few, l, last))
		for i := range begins {
			if !isIn(ends[i], begins[i]) {
				t.Fatal(f, few, begins, ends)
			}
		}
		for minute := range known {
			if !isIn(fewer[minute], wide[minute]) || !isIn(better[minute], known[minute]) || verdicts[minute] != api.Open && others[minute] != verdicts[minute] {
				t.Fatal(k, closer, f, few, l, minute)
			}
			switch {
			case others[minute] == verdicts[minute]:
				stay++
			default:
				told++
			}
		}
	}
	if stay < 5000 || told < 500 {
		t.Error(stay, told)
	}
}

// isNotLess tells whether both ends of each span are not below those of another one.
func isNotLess(l, than []api.Span) bool {
	for i := range l {
		if l[i].Lo < than[i].Lo || l[i].Hi < than[i].Hi {
			return false
		}
	}
	return len(l) == len(than)
}

// P7.9: with a coal more that touches none the heat of no minute is less, and the warmth neither; of warmer water neither.
func TestMoreCoalsAndWarmerWater(t *testing.T) {
	random := rand.New(rand.NewPCG(14, 7))
	hotter, warmer := 0, 0
	for _, s := range settings(15, 1500, 8, last) {
		k, f, l := s.k, s.f, s.l
		more := copied(f)
		more.Coals = append(more.Coals, api.Coal{Catch: one(1), Burn: narrow(random, span(1, 30)), Heat: narrow(random, span(1, 100)), Lit: true})
		known, others := must[[]api.Span](t)(hearth.Run(k, f, l, last)), must[[]api.Span](t)(hearth.Run(k, more, l, last))
		if !isNotLess(heats(t, more, last), heats(t, f, last)) || !isNotLess(others, known) {
			t.Fatal(k, f, more, l)
		}
		if !slices.Equal(known, others) {
			hotter++
		}
		if len(l) == 0 {
			continue
		}
		hot := slices.Clone(l)
		i := random.IntN(len(hot))
		hot[i].Warm = some(random, span(hot[i].Warm, api.MaxWarmth))
		others = must[[]api.Span](t)(hearth.Run(k, f, hot, last))
		if !isNotLess(others, known) {
			t.Fatal(k, f, l, hot)
		}
		if !slices.Equal(known, others) {
			warmer++
		}
	}
	if hotter < 500 || warmer < 200 {
		t.Error(hotter, warmer)
	}
}

// choiceOf returns what Lay has to return, by looking at all choices, and whether there is one.
func choiceOf(t *testing.T, k api.Kettle, f api.Fire, l []api.Pour, from, to int) ([]int, bool) {
	var best []int
	found := false
	for bits := range 1 << len(f.Coals) {
		var choice []int
		for coal := range f.Coals {
			if bits>>coal&1 == 1 {
				choice = append(choice, coal)
			}
		}
		verdicts := must[[]int](t)(hearth.Sings(k, alone(f, taking(len(f.Coals), choice)), l, to))
		if slices.ContainsFunc(verdicts[from:], func(verdict int) bool { return verdict != api.Sure }) {
			continue
		}
		if !found || len(choice) < len(best) || len(choice) == len(best) && slices.Compare(choice, best) < 0 {
			best, found = choice, true
		}
	}
	return best, found
}

// P7.3, P7.10: with the coals of Lay the kettle sings when it must, and no choice that does comes before them: all choices are looked at.
func TestAllChoicesOfCoals(t *testing.T) {
	random := rand.New(rand.NewPCG(16, 7))
	sizes := map[int]int{}
	for _, s := range settings(17, 1500, 6, 12) {
		k, f, l := s.k, s.f, s.l
		// The kettle and the room are cold at first, and it takes some coals, but not too many.
		k.Warm, k.Room, k.Sing, k.Boil = one(random.IntN(150)), random.IntN(150), 150+random.IntN(250), 500+random.IntN(501)
		k.Gain, k.Lose = 2*k.Water, random.IntN(50000)
		for i := range f.Coals {
			f.Coals[i].Burn, f.Coals[i].Heat = narrow(random, span(8, 20)), narrow(random, span(0, 30))
			f.Coals[i].Lit = random.IntN(2) == 0
		}
		for i := range l {
			l[i].Warm /= 4
		}
		from := random.IntN(12)
		to := from + random.IntN(3)
		want, found := choiceOf(t, k, f, l, from, to)
		choice, e := hearth.Lay(k, f, l, from, to)
		if !slices.Equal(choice, want) || found != (e == api.OK) || !found && e != api.ErrMissing {
			t.Fatal(k, f, l, from, to, choice, e, want, found)
		}
		if e == api.OK {
			sizes[len(choice)]++
		} else {
			sizes[-1]++
		}
	}
	for _, size := range []int{-1, 1, 2, 3} {
		if sizes[size] < 20 {
			t.Error(sizes)
		}
	}
}

// T9: with the coals that are laid for a time alone, the kettle surely sings in each minute of it.
func TestCoalsThatAreLaid(t *testing.T) {
	random := rand.New(rand.NewPCG(18, 7))
	laid := 0
	for _, s := range settings(19, 1500, 8, last) {
		k, f, l := s.k, s.f, s.l
		from := random.IntN(20)
		to := from + random.IntN(4)
		choice, e := hearth.Lay(k, f, l, from, to)
		if e == api.ErrMissing {
			continue
		}
		few := alone(f, taking(len(f.Coals), choice))
		verdicts, g := hearth.Sings(k, few, l, last)
		if e != api.OK || g != api.OK || slices.ContainsFunc(verdicts[from:to+1], func(verdict int) bool { return verdict != api.Sure }) {
			t.Fatal(k, f, l, from, to, choice, e, verdicts, g)
		}
		laid++
	}
	if laid < 200 {
		t.Error(laid)
	}
}

// P7.11: without fire, and with the warmth of the room, the warmth stays; nothing is lost with Lose 0; pours of water as warm as that in the kettle change no warmth.
func TestCalmWater(t *testing.T) {
	random := rand.New(rand.NewPCG(20, 7))
	for _, s := range settings(21, 800, 8, last) {
		k, f, l := s.k, s.f, s.l
		calm := k
		calm.Warm = one(k.Room)
		kept := k
		kept.Lose = 0
		// These pours are as warm as the water.
		same := slices.Clone(l)
		for i := range same {
			same[i].Warm = k.Room
		}
		cold := copied(f)
		for i := range cold.Coals {
			cold.Coals[i].Lit = false
		}
		no := api.Fire{}
		for name, c := range map[string]struct {
			got  []api.Span
			want api.Span
		}{
			"the warmth of the room":          {must[[]api.Span](t)(hearth.Run(calm, no, nil, last)), one(k.Room)},
			"coals that are not lit":          {must[[]api.Span](t)(hearth.Run(calm, cold, nil, last)), one(k.Room)},
			"pours as warm as the room":       {must[[]api.Span](t)(hearth.Run(calm, no, same, last)), one(k.Room)},
			"nothing is lost":                 {must[[]api.Span](t)(hearth.Run(kept, no, nil, last)), k.Warm},
			"nothing is gained from the fire": {must[[]api.Span](t)(hearth.Run(api.Kettle{Water: 1, Warm: k.Warm}, f, nil, last)), k.Warm},
		} {
			if !slices.Equal(c.got, slices.Repeat([]api.Span{c.want}, last+1)) {
				t.Fatal(name, k, f, l, c.got)
			}
		}
		// Water that is taken out changes no warmth, whatever is said of it.
		if k.Water > 1 {
			out := []api.Pour{{Minute: random.IntN(last), Ladles: 1 - k.Water, Warm: random.IntN(1001)}}
			if got := must[[]api.Span](t)(hearth.Run(kept, no, out, last)); !slices.Equal(got, slices.Repeat([]api.Span{k.Warm}, last+1)) {
				t.Fatal(k, out, got)
			}
		}
	}
}

// P7.12: a plan is read from its fire, and what is read is written as it was.
func TestPlansOfFires(t *testing.T) {
	random := rand.New(rand.NewPCG(22, 7))
	for _, s := range settings(23, 3000, 12, last) {
		f := s.f
		for i := range f.Coals {
			if random.IntN(3) == 0 {
				f.Coals[i].Catch, f.Coals[i].Burn, f.Coals[i].Heat = narrow(random, span(1, 300)), narrow(random, span(1, 300)), narrow(random, span(0, 1000))
			}
		}
		text := must[string](t)(hearth.Write(f))
		back, row, e := hearth.Read(text)
		if !same(back, f) || row != 0 || e != api.OK {
			t.Fatal(f, text, back, row, e)
		}
		if again := must[string](t)(hearth.Write(back)); again != text {
			t.Fatal(text, again)
		}
	}
}
