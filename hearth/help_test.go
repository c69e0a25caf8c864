package hearth_test

import (
	"math/rand/v2"
	"slices"
	"testing"

	"aloeswood/api"
	"aloeswood/hearth"
)

// span returns a span, one that of one number.
func span(low, high int) api.Span { return api.Span{Lo: low, Hi: high} }

func one(n int) api.Span { return span(n, n) }

// never is when a coal begins that never does.
func never() api.Span { return one(api.Unlit) }

// fireF is the fire F of the chapter.
func fireF() api.Fire {
	return api.Fire{
		Coals: []api.Coal{
			{Catch: one(1), Burn: span(3, 4), Heat: span(10, 12), Lit: true},
			{Catch: span(2, 3), Burn: one(5), Heat: one(20)},
			{Catch: span(4, 6), Burn: one(2), Heat: one(5)},
		},
		Touches: []api.Touch{{A: 0, B: 1}, {A: 1, B: 2}},
	}
}

// kettleK is the kettle K of the chapter.
func kettleK() api.Kettle {
	return api.Kettle{Water: 10, Warm: one(200), Room: 200, Gain: 100, Lose: 100000, Sing: 400, Boil: 900}
}

// fireWith returns the fire F with a change, kettleWith the kettle K.
func fireWith(change func(f *api.Fire)) api.Fire {
	f := fireF()
	change(&f)
	return f
}

func kettleWith(change func(k *api.Kettle)) api.Kettle {
	k := kettleK()
	change(&k)
	return k
}

// chain returns a fire of coals of which each one touches the next one, and the first one is lit.
func chain(coals ...api.Coal) api.Fire {
	f := api.Fire{Coals: coals}
	for i := 1; i < len(coals); i++ {
		f.Touches = append(f.Touches, api.Touch{A: i - 1, B: i})
	}
	f.Coals[0].Lit = true
	return f
}

// must fails the test unless there was no error.
func must[T any](t *testing.T) func(v T, e api.Errno) T {
	return func(v T, e api.Errno) T {
		t.Helper()
		if e != api.OK {
			t.Fatal("unexpected", e)
		}
		return v
	}
}

// heats returns what is known of the heat of each minute from 0 to the last one.
func heats(t *testing.T, f api.Fire, last int) []api.Span {
	t.Helper()
	var l []api.Span
	for minute := range last + 1 {
		l = append(l, must[api.Span](t)(hearth.Heat(f, minute)))
	}
	return l
}

// same tells whether two fires are equal.
func same(a, b api.Fire) bool {
	return slices.Equal(a.Coals, b.Coals) && slices.Equal(a.Touches, b.Touches)
}

// isZero tells whether a fire is the zero value.
func isZero(f api.Fire) bool { return same(f, api.Fire{}) }

// copied returns a fire that is equal, and apart.
func copied(f api.Fire) api.Fire {
	return api.Fire{Coals: slices.Clone(f.Coals), Touches: slices.Clone(f.Touches)}
}

// isIn tells whether a span lies within another one, has whether a number does.
func isIn(inner, outer api.Span) bool { return outer.Lo <= inner.Lo && inner.Hi <= outer.Hi }

func has(s api.Span, n int) bool { return s.Lo <= n && n <= s.Hi }

// some returns a number of a span.
func some(random *rand.Rand, s api.Span) int { return s.Lo + random.IntN(s.Hi-s.Lo+1) }

// narrow returns a span within another one.
func narrow(random *rand.Rand, s api.Span) api.Span {
	low := some(random, s)
	return span(low, some(random, span(low, s.Hi)))
}

// someFire returns a fire of at most so many coals, whose times are not long.
func someFire(random *rand.Rand, coals int) api.Fire {
	var f api.Fire
	for range random.IntN(coals + 1) {
		f.Coals = append(f.Coals, api.Coal{
			Catch: narrow(random, span(1, 6)), Burn: narrow(random, span(1, 12)), Heat: narrow(random, span(0, 40)),
			Lit: random.IntN(3) == 0,
		})
	}
	for range random.IntN(2*len(f.Coals) + 1) {
		a, b := random.IntN(len(f.Coals)), random.IntN(len(f.Coals))
		if a != b {
			f.Touches = append(f.Touches, api.Touch{A: a, B: b})
		}
	}
	return f
}

// someKettle returns a kettle.
func someKettle(random *rand.Rand) api.Kettle {
	sings := narrow(random, span(0, api.MaxWarmth))
	lose := []int{0, 1, 1 + random.IntN(api.Mil), 100000, 333333, 999999, api.Mil}
	return api.Kettle{
		Water: some(random, span(1, 12)), Warm: narrow(random, span(random.IntN(300), 300+random.IntN(701))),
		Room: random.IntN(api.MaxWarmth + 1), Gain: random.IntN(60), Lose: lose[random.IntN(len(lose))],
		Sing: sings.Lo, Boil: sings.Hi,
	}
}

// somePours returns pours for a kettle, up to a minute.
func somePours(random *rand.Rand, k api.Kettle, last int) []api.Pour {
	var l []api.Pour
	ladles, minute := k.Water, 0
	for range random.IntN(5) {
		p := api.Pour{Minute: minute + random.IntN(3), Ladles: some(random, span(-8, 8)), Warm: random.IntN(api.MaxWarmth + 1)}
		if p.Ladles == 0 || !has(span(1, api.MaxLadles), ladles+p.Ladles) || p.Minute > last {
			continue
		}
		l = append(l, p)
		ladles, minute = ladles+p.Ladles, p.Minute
	}
	return l
}

// setting is a kettle over a fire, with pours.
type setting struct {
	k api.Kettle
	f api.Fire
	l []api.Pour
}

// settings returns so many settings, each with at most so many coals, and with pours up to a minute.
func settings(seed uint64, times, coals, last int) []setting {
	random := rand.New(rand.NewPCG(seed, 7))
	var all []setting
	for range times {
		k := someKettle(random)
		all = append(all, setting{k, someFire(random, coals), somePours(random, k, last)})
	}
	return all
}
