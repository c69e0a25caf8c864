package hearth_test

import (
	"math"
	"regexp"
	"slices"
	"strconv"
	"strings"
	"testing"

	"aloeswood/api"
	"aloeswood/hearth"
)

// P7.1

// badSpans are spans that are not valid where numbers have to be from a least to a greatest one, with their errors.
func badSpans(low, high int) map[api.Span]api.Errno {
	return map[api.Span]api.Errno{
		span(low-1, low): api.ErrRange, span(low, high+1): api.ErrRange, span(low-1, high+1): api.ErrRange, span(high+1, high+1): api.ErrRange, one(low - 1): api.ErrRange,
		span(low+1, low): api.ErrOrder, span(high, low): api.ErrOrder, span(high, high-1): api.ErrOrder,
		// Also what is out of order is out of range first.
		span(low, low-1): api.ErrRange, span(high+1, high): api.ErrRange, span(low-1, low-2): api.ErrRange,
		span(math.MinInt, math.MaxInt): api.ErrRange, span(math.MaxInt, math.MinInt): api.ErrRange, span(low, math.MaxInt): api.ErrRange, span(math.MinInt, high): api.ErrRange,
	}
}

// badFires are fires that are not valid, with their first errors.
func badFires() map[string]struct {
	f api.Fire
	e api.Errno
} {
	type bad = struct {
		f api.Fire
		e api.Errno
	}
	coals := func(e api.Errno, l ...api.Coal) bad {
		return bad{fireWith(func(f *api.Fire) { f.Coals = l }), e}
	}
	touches := func(e api.Errno, l ...api.Touch) bad {
		return bad{fireWith(func(f *api.Fire) { f.Touches = l }), e}
	}
	good, wrong := api.Coal{Catch: one(1), Burn: one(1)}, span(2, 1)
	return map[string]bad{
		"13 coals":                     coals(api.ErrFull, slices.Repeat([]api.Coal{good}, 13)...),
		"13 coals that are none":       coals(api.ErrFull, make([]api.Coal, 13)...),
		"no numbers":                   coals(api.ErrRange, api.Coal{}),
		"12 coals, the last one wrong": coals(api.ErrRange, append(slices.Repeat([]api.Coal{good}, 11), api.Coal{})...),
		"Catch out of order before Burn out of range": coals(api.ErrOrder, api.Coal{Catch: wrong, Burn: one(0)}),
		"Catch out of range before Burn out of order": coals(api.ErrRange, api.Coal{Catch: one(0), Burn: wrong}),
		"Burn out of order before Heat out of range":  coals(api.ErrOrder, api.Coal{Catch: one(1), Burn: wrong, Heat: one(-1)}),
		"Burn out of range before Heat out of order":  coals(api.ErrRange, api.Coal{Catch: one(1), Burn: one(301), Heat: wrong}),
		"Heat out of order before the next coal":      coals(api.ErrOrder, api.Coal{Catch: one(1), Burn: one(1), Heat: wrong}, api.Coal{}),
		"a coal before touches":                       {api.Fire{Coals: []api.Coal{{}}, Touches: make([]api.Touch, 41)}, api.ErrRange},
		"too many coals before touches":               {api.Fire{Coals: make([]api.Coal, 13), Touches: []api.Touch{{A: 99}}}, api.ErrFull},

		"41 touches":                         touches(api.ErrFull, slices.Repeat([]api.Touch{{A: 0, B: 1}}, 41)...),
		"41 touches that are none":           touches(api.ErrFull, make([]api.Touch, 41)...),
		"a touch with itself":                touches(api.ErrClash, api.Touch{A: 1, B: 1}),
		"no touch":                           touches(api.ErrClash, api.Touch{}),
		"a touch of what is no coal":         touches(api.ErrMissing, api.Touch{A: 3, B: 0}),
		"a touch with what is no coal":       touches(api.ErrMissing, api.Touch{A: 0, B: 3}),
		"a touch below 0":                    touches(api.ErrMissing, api.Touch{A: -1, B: 0}),
		"a touch with what is below 0":       touches(api.ErrMissing, api.Touch{A: 0, B: -1}),
		"a touch of none with itself":        touches(api.ErrMissing, api.Touch{A: 3, B: 3}),
		"a touch of none below 0":            touches(api.ErrMissing, api.Touch{A: -1, B: -1}),
		"a touch far off":                    touches(api.ErrMissing, api.Touch{A: math.MinInt, B: math.MaxInt}),
		"the third touch":                    touches(api.ErrMissing, api.Touch{A: 0, B: 1}, api.Touch{A: 0, B: 1}, api.Touch{A: 1, B: 3}),
		"the 40th touch":                     touches(api.ErrClash, append(slices.Repeat([]api.Touch{{A: 0, B: 1}}, 39), api.Touch{A: 2, B: 2})...),
		"with itself before one with none":   touches(api.ErrClash, api.Touch{A: 1, B: 1}, api.Touch{A: 0, B: 3}),
		"with none before one with itself":   touches(api.ErrMissing, api.Touch{A: 0, B: 3}, api.Touch{A: 1, B: 1}),
		"a touch without coals":              {api.Fire{Touches: []api.Touch{{A: 0, B: 1}}}, api.ErrMissing},
		"a touch with itself, without coals": {api.Fire{Touches: []api.Touch{{}}}, api.ErrMissing},
	}
}

// refused fails the test unless all functions that take a fire return this error of it, and nothing else. What comes besides the fire is wrong, too, but for the kettle and the pours.
func refused(t *testing.T, name string, f api.Fire, want api.Errno) {
	t.Helper()
	begins, a := hearth.Begins(f)
	heat, b := hearth.Heat(f, -1)
	warmths, c := hearth.Run(kettleK(), f, nil, -1)
	verdicts, d := hearth.Sings(kettleK(), f, nil, 301)
	sure, perhaps, g := hearth.When(kettleK(), f, nil, -1)
	laid, h := hearth.Lay(kettleK(), f, nil, 301, 300)
	text, i := hearth.Write(f)
	if said := []api.Errno{hearth.Check(f), a, b, c, d, g, h, i}; !slices.Equal(said, slices.Repeat([]api.Errno{want}, 8)) {
		t.Error(name, said, want)
	}
	if len(begins)+len(warmths)+len(verdicts)+len(laid) > 0 || heat != (api.Span{}) || sure != 0 || perhaps != 0 || text != "" {
		t.Error(name, "not all is zero")
	}
}

func TestFiresThatAreNotValid(t *testing.T) {
	for name, c := range badFires() {
		refused(t, name, c.f, c.e)
	}
	for i, field := range []func(c *api.Coal) *api.Span{
		func(c *api.Coal) *api.Span { return &c.Catch },
		func(c *api.Coal) *api.Span { return &c.Burn },
		func(c *api.Coal) *api.Span { return &c.Heat },
	} {
		bounds := []api.Span{span(1, 300), span(1, 300), span(0, 1000)}[i]
		for coal := range 3 {
			for s, e := range badSpans(bounds.Lo, bounds.Hi) {
				refused(t, "a span", fireWith(func(f *api.Fire) { *field(&f.Coals[coal]) = s }), e)
			}
			for _, s := range []api.Span{bounds, one(bounds.Lo), one(bounds.Hi)} {
				if e := hearth.Check(fireWith(func(f *api.Fire) { *field(&f.Coals[coal]) = s })); e != api.OK {
					t.Error(i, coal, s, e)
				}
			}
		}
	}
}

// full is the largest fire.
func full() api.Fire {
	var f api.Fire
	for range 12 {
		f.Coals = append(f.Coals, api.Coal{Catch: one(300), Burn: one(300), Heat: one(1000)})
	}
	f.Coals[0].Lit = true
	for i := range 40 {
		f.Touches = append(f.Touches, api.Touch{A: i % 11, B: i%11 + 1})
	}
	return f
}

func TestFiresThatAreValid(t *testing.T) {
	for i, f := range []api.Fire{
		fireF(), full(), {},
		{Coals: []api.Coal{{Catch: one(1), Burn: one(1)}}},
		// Two coals may touch twice, either way round, and lit ones may touch.
		fireWith(func(f *api.Fire) { f.Touches = []api.Touch{{A: 0, B: 2}, {A: 2, B: 0}, {A: 0, B: 2}} }),
		fireWith(func(f *api.Fire) { f.Coals[1].Lit = true }),
		fireWith(func(f *api.Fire) { f.Touches = nil }),
	} {
		if e := hearth.Check(f); e != api.OK {
			t.Error(i, e)
		}
	}
}

// badKettles are kettles that are not valid, with their first errors.
func badKettles() map[string]struct {
	k api.Kettle
	e api.Errno
} {
	type bad = struct {
		k api.Kettle
		e api.Errno
	}
	of := func(e api.Errno, change func(k *api.Kettle)) bad { return bad{kettleWith(change), e} }
	return map[string]bad{
		"nothing":                         {api.Kettle{}, api.ErrRange},
		"no water before Warm":            of(api.ErrRange, func(k *api.Kettle) { k.Water, k.Warm = 0, span(2, 1) }),
		"Warm out of order before Room":   of(api.ErrOrder, func(k *api.Kettle) { k.Warm, k.Room = span(2, 1), -1 }),
		"Warm out of order before Sing":   of(api.ErrOrder, func(k *api.Kettle) { k.Warm, k.Sing = span(2, 1), -1 }),
		"Warm out of order before Boil":   of(api.ErrOrder, func(k *api.Kettle) { k.Warm, k.Boil = span(2, 1), 1001 }),
		"Warm out of order before Gain":   of(api.ErrOrder, func(k *api.Kettle) { k.Warm, k.Gain = span(2, 1), -1 }),
		"Warm out of order before Lose":   of(api.ErrOrder, func(k *api.Kettle) { k.Warm, k.Lose = span(2, 1), -1 }),
		"Gain before Sing above Boil":     of(api.ErrRange, func(k *api.Kettle) { k.Gain, k.Sing = -1, 901 }),
		"Lose before Sing above Boil":     of(api.ErrRange, func(k *api.Kettle) { k.Lose, k.Sing = 1000001, 901 }),
		"Room before Sing above Boil":     of(api.ErrRange, func(k *api.Kettle) { k.Room, k.Sing = 1001, 901 }),
		"Boil too low, Sing above it":     of(api.ErrRange, func(k *api.Kettle) { k.Boil = -1 }),
		"Sing too high, above Boil":       of(api.ErrRange, func(k *api.Kettle) { k.Sing = 1001 }),
		"Sing above Boil":                 of(api.ErrOrder, func(k *api.Kettle) { k.Sing = 901 }),
		"Boil below Sing":                 of(api.ErrOrder, func(k *api.Kettle) { k.Boil = 399 }),
		"Sing and Boil the other way":     of(api.ErrOrder, func(k *api.Kettle) { k.Sing, k.Boil = 1000, 0 }),
		"Sing above Boil, Warm unlike it": of(api.ErrOrder, func(k *api.Kettle) { k.Warm, k.Sing, k.Boil = span(0, 1000), 1, 0 }),
	}
}

// refusedKettle fails the test unless all functions that take a kettle return this error of it, and nothing else, whatever the pours and the fire are.
func refusedKettle(t *testing.T, name string, k api.Kettle, want api.Errno) {
	t.Helper()
	wrong, l := api.Fire{Coals: make([]api.Coal, 13)}, make([]api.Pour, 21)
	warmths, a := hearth.Run(k, wrong, l, -1)
	verdicts, b := hearth.Sings(k, wrong, l, -1)
	sure, perhaps, c := hearth.When(k, wrong, l, -1)
	laid, d := hearth.Lay(k, wrong, l, 301, 300)
	said := []api.Errno{hearth.CheckKettle(k), hearth.CheckPours(k, l), hearth.CheckPours(k, nil), a, b, c, d}
	if !slices.Equal(said, slices.Repeat([]api.Errno{want}, 7)) || len(warmths)+len(verdicts)+len(laid) > 0 || sure != 0 || perhaps != 0 {
		t.Error(name, k, said, want)
	}
}

func TestKettles(t *testing.T) {
	for name, c := range badKettles() {
		refusedKettle(t, name, c.k, c.e)
	}
	for s, e := range badSpans(0, 1000) {
		refusedKettle(t, "Warm", kettleWith(func(k *api.Kettle) { k.Warm = s }), e)
	}
	for name, field := range map[string]struct {
		of        func(k *api.Kettle) *int
		low, high int
	}{
		"Water": {func(k *api.Kettle) *int { return &k.Water }, 1, 50},
		"Room":  {func(k *api.Kettle) *int { return &k.Room }, 0, 1000},
		"Gain":  {func(k *api.Kettle) *int { return &k.Gain }, 0, 1000},
		"Lose":  {func(k *api.Kettle) *int { return &k.Lose }, 0, 1000000},
		"Sing":  {func(k *api.Kettle) *int { return &k.Sing }, 0, 1000},
		"Boil":  {func(k *api.Kettle) *int { return &k.Boil }, 0, 1000},
	} {
		// Each number of Sing and of Boil is in order with these.
		with := func(n int) api.Kettle {
			return kettleWith(func(k *api.Kettle) {
				k.Sing, k.Boil = 0, 1000
				*field.of(k) = n
			})
		}
		for _, n := range []int{field.low, field.low + 1, field.high - 1, field.high} {
			if e := hearth.CheckKettle(with(n)); e != api.OK {
				t.Error(name, n, e)
			}
		}
		for _, n := range []int{field.low - 1, field.high + 1, math.MinInt, math.MaxInt} {
			refusedKettle(t, name, with(n), api.ErrRange)
		}
	}
	for _, k := range []api.Kettle{{Water: 1}, {Water: 50, Warm: span(0, 1000), Room: 1000, Gain: 1000, Lose: 1000000, Sing: 1000, Boil: 1000}} {
		if e := hearth.CheckKettle(k); e != api.OK {
			t.Error(k, e)
		}
	}
}

// pourCases are pours for the kettle K, with their first errors.
func pourCases() map[string]struct {
	l []api.Pour
	e api.Errno
} {
	type pours = struct {
		l []api.Pour
		e api.Errno
	}
	of := func(e api.Errno, l ...api.Pour) pours { return pours{l, e} }
	return map[string]pours{
		"none":                      of(api.OK),
		"20":                        of(api.OK, slices.Repeat([]api.Pour{{Ladles: 2}}, 20)...),
		"21":                        of(api.ErrFull, slices.Repeat([]api.Pour{{Ladles: 1}}, 21)...),
		"21 that are none":          of(api.ErrFull, make([]api.Pour, 21)...),
		"nothing":                   of(api.ErrRange, api.Pour{}),
		"the last minute":           of(api.OK, api.Pour{Minute: 300, Ladles: 1}),
		"a minute too late":         of(api.ErrRange, api.Pour{Minute: 301, Ladles: 1}),
		"a minute too early":        of(api.ErrRange, api.Pour{Minute: -1, Ladles: 1}),
		"a minute far off":          of(api.ErrRange, api.Pour{Minute: math.MaxInt, Ladles: 1}),
		"the last minute before":    of(api.ErrRange, api.Pour{Minute: math.MinInt, Ladles: 1}),
		"51 ladles":                 of(api.ErrRange, api.Pour{Ladles: 51}),
		"51 ladles out":             of(api.ErrRange, api.Pour{Ladles: -51}),
		"very many ladles":          of(api.ErrRange, api.Pour{Ladles: math.MaxInt}),
		"very many ladles out":      of(api.ErrRange, api.Pour{Ladles: math.MinInt}),
		"50 ladles":                 of(api.ErrOver, api.Pour{Ladles: 50}),
		"50 ladles out":             of(api.ErrOver, api.Pour{Ladles: -50}),
		"the hottest water":         of(api.OK, api.Pour{Ladles: 1, Warm: 1000}),
		"hotter water":              of(api.ErrRange, api.Pour{Ladles: 1, Warm: 1001}),
		"colder water":              of(api.ErrRange, api.Pour{Ladles: 1, Warm: -1}),
		"hotter water out":          of(api.ErrRange, api.Pour{Ladles: -1, Warm: 1001}),
		"colder water out":          of(api.ErrRange, api.Pour{Ladles: -1, Warm: math.MinInt}),
		"all that goes in":          of(api.OK, api.Pour{Ladles: 40}),
		"one more":                  of(api.ErrOver, api.Pour{Ladles: 41}),
		"all but one out":           of(api.OK, api.Pour{Ladles: -9}),
		"all out":                   of(api.ErrOver, api.Pour{Ladles: -10}),
		"all out in two":            of(api.ErrOver, api.Pour{Minute: 5, Ladles: -5}, api.Pour{Minute: 5, Ladles: -5}),
		"all out, and in again":     of(api.ErrOver, api.Pour{Ladles: -10}, api.Pour{Ladles: 10}),
		"out and in again":          of(api.OK, api.Pour{Ladles: -9}, api.Pour{Ladles: 49}, api.Pour{Ladles: -49}, api.Pour{Ladles: 9}),
		"one more than out":         of(api.ErrOver, api.Pour{Ladles: -9}, api.Pour{Ladles: 50}),
		"in one minute, and later":  of(api.OK, api.Pour{Minute: 1, Ladles: 1}, api.Pour{Minute: 1, Ladles: 1}, api.Pour{Minute: 300, Ladles: 1}, api.Pour{Minute: 300, Ladles: 1}),
		"earlier":                   of(api.ErrOrder, api.Pour{Minute: 1, Ladles: 1}, api.Pour{Minute: 0, Ladles: 1}),
		"earlier than the last one": of(api.ErrOrder, api.Pour{Minute: 1, Ladles: 1}, api.Pour{Minute: 3, Ladles: 1}, api.Pour{Minute: 2, Ladles: 1}),
		"range before order":        of(api.ErrRange, api.Pour{Minute: 5, Ladles: 1}, api.Pour{Minute: 4}),
		"order before all out":      of(api.ErrOrder, api.Pour{Minute: 5, Ladles: 1}, api.Pour{Minute: 4, Ladles: -50}),
		"range before all out":      of(api.ErrRange, api.Pour{Ladles: -10, Warm: 1001}),
		"all out before the next":   of(api.ErrOver, api.Pour{Minute: 1, Ladles: -10}, api.Pour{}),
		"earlier before the next":   of(api.ErrOrder, api.Pour{Minute: 1, Ladles: 1}, api.Pour{Ladles: 1}, api.Pour{}),
	}
}

func TestPours(t *testing.T) {
	for name, c := range pourCases() {
		if e := hearth.CheckPours(kettleK(), c.l); e != c.e {
			t.Error(name, e, c.e)
		}
		// What is wrong with the pours comes before what is wrong with the fire.
		wrong, want := api.Fire{Coals: make([]api.Coal, 13)}, c.e
		if c.e == api.OK {
			wrong, want = fireF(), api.ErrRange
		}
		warmths, a := hearth.Run(kettleK(), wrong, c.l, -1)
		verdicts, b := hearth.Sings(kettleK(), wrong, c.l, 301)
		sure, perhaps, d := hearth.When(kettleK(), wrong, c.l, -1)
		laid, f := hearth.Lay(kettleK(), wrong, c.l, -1, 301)
		if said := []api.Errno{a, b, d, f}; !slices.Equal(said, slices.Repeat([]api.Errno{want}, 4)) || len(warmths)+len(verdicts)+len(laid) > 0 || sure != 0 || perhaps != 0 {
			t.Error(name, said, want)
		}
	}
}

func TestBegins(t *testing.T) {
	coal := func(catch, burn api.Span) api.Coal { return api.Coal{Catch: catch, Burn: burn} }
	ring := api.Fire{
		Coals:   []api.Coal{{Catch: one(1), Burn: one(9), Lit: true}, coal(span(2, 4), span(5, 9)), coal(span(6, 7), one(3)), coal(one(3), one(1))},
		Touches: []api.Touch{{A: 1, B: 0}, {A: 0, B: 2}, {A: 2, B: 1}, {A: 1, B: 2}, {A: 3, B: 2}},
	}
	star := api.Fire{
		Coals:   []api.Coal{{Catch: one(1), Burn: one(2), Lit: true}, coal(one(2), one(9)), coal(one(3), one(9))},
		Touches: []api.Touch{{A: 0, B: 1}, {A: 0, B: 2}, {A: 1, B: 2}},
	}
	long := slices.Repeat([]api.Span{one(0)}, 12)
	for i := range long {
		long[i] = one(300 * i)
	}
	for name, c := range map[string]struct {
		f    api.Fire
		want []api.Span
	}{
		"F":          {fireF(), []api.Span{one(0), span(2, 3), span(6, api.Unlit)}},
		"no coals":   {api.Fire{}, nil},
		"no touches": {api.Fire{Coals: fireF().Coals}, []api.Span{one(0), never(), never()}},
		"none lit":   {fireWith(func(f *api.Fire) { f.Coals[0].Lit = false }), []api.Span{never(), never(), never()}},
		// A lit coal does not catch from another one, nor does a coal that burns begin again.
		"all lit":     {fireWith(func(f *api.Fire) { f.Coals[1].Lit, f.Coals[2].Lit = true, true }), []api.Span{one(0), one(0), one(0)}},
		"two lit":     {fireWith(func(f *api.Fire) { f.Coals[2].Lit = true }), []api.Span{one(0), span(2, 3), one(0)}},
		"a ring":      {ring, []api.Span{one(0), span(2, 4), span(6, 7), span(9, 10)}},
		"the longest": {full(), long},
		// The coal 2 takes too long for the coal 0, which burns out; it catches from the coal 1.
		"a detour": {star, []api.Span{one(0), one(2), one(5)}},
		// Just in time, and just not.
		"just in time":       {chain(coal(one(1), one(3)), coal(one(3), one(1)), coal(one(1), one(1))), []api.Span{one(0), one(3), one(4)}},
		"just too late":      {chain(coal(one(1), one(3)), coal(one(4), one(1)), coal(one(1), one(1))), []api.Span{one(0), never(), never()}},
		"perhaps too late":   {chain(coal(one(1), span(3, 4)), coal(one(4), one(9)), coal(span(1, 2), one(1))), []api.Span{one(0), span(4, api.Unlit), span(5, api.Unlit)}},
		"too slow perhaps":   {chain(coal(one(1), one(3)), coal(span(3, 4), one(9))), []api.Span{one(0), span(3, api.Unlit)}},
		"surely, either way": {chain(coal(one(1), span(4, 9)), coal(span(2, 4), one(1))), []api.Span{one(0), span(2, 4)}},
		// It takes a coal its own time to catch, not that of the one that burns.
		"its own time": {chain(coal(one(9), one(9)), coal(one(2), one(9)), coal(one(7), one(9))), []api.Span{one(0), one(2), one(9)}},
		// The way that is shorter at the one end is the longer one at the other end.
		"two ways": {api.Fire{
			Coals:   []api.Coal{{Catch: one(1), Burn: one(9), Lit: true}, coal(one(4), one(9)), coal(span(1, 6), one(9)), coal(one(3), one(9))},
			Touches: []api.Touch{{A: 3, B: 1}, {A: 2, B: 3}, {A: 1, B: 0}, {A: 0, B: 2}},
		}, []api.Span{one(0), one(4), span(1, 6), span(4, 7)}},
		"downwards": {api.Fire{
			Coals:   []api.Coal{coal(one(1), one(9)), coal(one(2), one(9)), coal(one(3), one(9)), {Catch: one(1), Burn: one(9), Lit: true}},
			Touches: []api.Touch{{A: 0, B: 1}, {A: 1, B: 2}, {A: 2, B: 3}},
		}, []api.Span{one(6), one(5), one(3), one(0)}},
	} {
		if l := must[[]api.Span](t)(hearth.Begins(c.f)); !slices.Equal(l, c.want) {
			t.Error(name, l, c.want)
		}
	}
}

func TestHeat(t *testing.T) {
	want := []api.Span{span(10, 12), span(10, 12), span(10, 32), span(20, 32), one(20), one(20), span(20, 25), span(0, 25), span(0, 5)}
	if l := heats(t, fireF(), 8); !slices.Equal(l, want) {
		t.Error(l)
	}
	for minute := 8; minute <= 300; minute++ {
		if heat := must[api.Span](t)(hearth.Heat(fireF(), minute)); heat != span(0, 5) {
			t.Error(minute, heat)
		}
	}
	for _, minute := range []int{-1, 301, math.MinInt, math.MaxInt} {
		if heat, e := hearth.Heat(fireF(), minute); heat != (api.Span{}) || e != api.ErrRange {
			t.Error(minute, heat, e)
		}
	}
	for name, c := range map[string]struct {
		f    api.Fire
		want []api.Span
	}{
		"no coals":    {api.Fire{}, []api.Span{one(0), one(0)}},
		"one minute":  {chain(api.Coal{Catch: one(1), Burn: one(1), Heat: one(7)}), []api.Span{one(7), one(0), one(0)}},
		"two minutes": {chain(api.Coal{Catch: one(1), Burn: one(2), Heat: span(0, 7)}), []api.Span{span(0, 7), span(0, 7), one(0)}},
		"never":       {api.Fire{Coals: fireF().Coals[1:]}, []api.Span{one(0), one(0), one(0), one(0)}},
		// A coal that begins in the minute 1, 2 or 3 surely burns in the minute 3 only if it burns for three minutes.
		"too loose": {chain(api.Coal{Catch: one(1), Burn: one(9)}, api.Coal{Catch: span(1, 3), Burn: span(2, 3), Heat: span(4, 6)}), []api.Span{one(0), span(0, 6), span(0, 6), span(0, 6), span(0, 6), span(0, 6), one(0)}},
		"loose":     {chain(api.Coal{Catch: one(1), Burn: one(9)}, api.Coal{Catch: span(1, 3), Burn: span(3, 4), Heat: span(4, 6)}), []api.Span{one(0), span(0, 6), span(0, 6), span(4, 6), span(0, 6), span(0, 6), span(0, 6), one(0)}},
	} {
		if l := heats(t, c.f, len(c.want)-1); !slices.Equal(l, c.want) {
			t.Error(name, l, c.want)
		}
	}
	// The coals of the largest fire burn one after the other; if all are lit, all together.
	if heat := must[api.Span](t)(hearth.Heat(full(), 300)); heat != one(1000) {
		t.Error(heat)
	}
	all := full()
	for i := range all.Coals {
		all.Coals[i].Lit = true
	}
	if l := heats(t, all, 300); l[0] != one(12000) || l[299] != one(12000) || l[300] != one(0) {
		t.Error(l)
	}
}

// P7.2

func TestRun(t *testing.T) {
	cold := kettleWith(func(k *api.Kettle) { k.Warm, k.Lose = span(100, 300), 250000 })
	odd := api.Kettle{Water: 3, Warm: span(999, 1000), Room: 200, Gain: 1, Lose: 333333, Boil: 1}
	still := api.Kettle{Water: 7, Warm: one(500)}
	hot := chain(api.Coal{Catch: one(1), Burn: one(2), Heat: one(1000)})
	for name, c := range map[string]struct {
		k       api.Kettle
		f       api.Fire
		l       []api.Pour
		minutes int
		want    []api.Span
	}{
		"K over F":             {kettleK(), fireF(), nil, 4, []api.Span{one(200), span(300, 320), span(390, 428), span(471, 726), span(643, 994)}},
		"no minute":            {kettleK(), fireF(), nil, 0, []api.Span{one(200)}},
		"ten ladles of 100":    {kettleK(), fireF(), []api.Pour{{Minute: 1, Ladles: 10, Warm: 100}}, 1, []api.Span{one(200), span(200, 210)}},
		"loss above and below": {cold, api.Fire{}, nil, 2, []api.Span{span(100, 300), span(125, 275), span(143, 257)}},
		"a third":              {odd, api.Fire{}, nil, 1, []api.Span{span(999, 1000), span(732, 734)}},
		"in and out":           {kettleK(), api.Fire{}, []api.Pour{{Ladles: 5, Warm: 500}, {Ladles: -14}, {Minute: 1, Ladles: 2, Warm: 1000}}, 1, []api.Span{one(300), span(763, 764)}},
		// What is taken out is as warm as the rest, whatever is said of it.
		"out":         {still, api.Fire{}, []api.Pour{{Ladles: -3, Warm: 1000}, {Minute: 2, Ladles: -3, Warm: 0}}, 3, []api.Span{one(500), one(500), one(500), one(500)}},
		"pours later": {still, api.Fire{}, []api.Pour{{Minute: 2, Ladles: 7, Warm: 501}, {Minute: 3, Ladles: 1}}, 2, []api.Span{one(500), one(500), span(500, 501)}},
		// Each pour of a minute is rounded: 500.125 and 500.9.., so 500 to 501 and then 500 to 502.
		"pours are rounded one by one": {still, api.Fire{}, []api.Pour{{Ladles: 1, Warm: 501}, {Ladles: 1, Warm: 507}}, 0, []api.Span{span(500, 502)}},
		// The whole sum is rounded: a third more and a third less is nothing.
		"one sum": {api.Kettle{Water: 3, Warm: one(1), Gain: 1, Lose: 333333}, chain(api.Coal{Catch: one(1), Burn: one(2), Heat: one(1)}), nil, 1, []api.Span{one(1), span(1, 2)}},
		"even":    {api.Kettle{Water: 4, Warm: one(1), Gain: 1, Lose: 250000}, chain(api.Coal{Catch: one(1), Burn: one(2), Heat: one(1)}), nil, 2, []api.Span{one(1), one(1), one(1)}},
		// No water is warmer than that; it cools down from there.
		"the greatest warmth": {api.Kettle{Water: 1, Warm: one(0), Gain: 1000, Lose: 500000}, hot, nil, 3, []api.Span{one(0), one(1000), one(1000), one(500)}},
		"all is lost":         {api.Kettle{Water: 1, Warm: span(0, 1000), Room: 123, Lose: api.Mil}, api.Fire{}, nil, 1, []api.Span{span(0, 1000), one(123)}},
		// The least and the greatest heat are those of the minute before.
		"the minute before": {api.Kettle{Water: 1, Warm: one(0), Gain: 1}, chain(api.Coal{Catch: one(1), Burn: span(1, 2), Heat: span(3, 5)}), nil, 3, []api.Span{one(0), span(3, 5), span(3, 10), span(3, 10)}},
		// Less water is warmed more, and poured water is warmed in its first minute.
		"less water": {api.Kettle{Water: 4, Warm: one(0), Gain: 1}, chain(api.Coal{Catch: one(1), Burn: one(3), Heat: one(8)}), []api.Pour{{Minute: 1, Ladles: -2}, {Minute: 2, Ladles: 6, Warm: 6}}, 3, []api.Span{one(0), one(2), one(6), one(7)}},
	} {
		if l := must[[]api.Span](t)(hearth.Run(c.k, c.f, c.l, c.minutes)); !slices.Equal(l, c.want) {
			t.Error(name, l, c.want)
		}
	}
	if l := must[[]api.Span](t)(hearth.Run(kettleK(), full(), nil, 300)); len(l) != 301 {
		t.Error(len(l))
	}
}

func TestSingsAndWhen(t *testing.T) {
	const sure, never, open = api.Sure, api.Never, api.Open
	singing := func(sing, boil int) api.Kettle {
		return kettleWith(func(k *api.Kettle) { k.Sing, k.Boil = sing, boil })
	}
	// The warmth is 200; 300 to 320; 390 to 428; 471 to 726; 643 to 994.
	for name, c := range map[string]struct {
		k             api.Kettle
		want          []int
		sure, perhaps int
	}{
		"K":               {kettleK(), []int{never, never, open, sure, open}, 3, 2},
		"never":           {singing(1000, 1000), []int{never, never, never, never, never}, -1, -1},
		"always":          {singing(0, 1000), []int{sure, sure, sure, sure, sure}, 0, 0},
		"boils":           {singing(0, 199), []int{never, never, never, never, never}, -1, -1},
		"just":            {singing(300, 320), []int{never, sure, never, never, never}, 1, 1},
		"a tenth too low": {singing(301, 320), []int{never, open, never, never, never}, -1, 1},
		"too high":        {singing(300, 319), []int{never, open, never, never, never}, -1, 1},
		"only the ends":   {singing(320, 390), []int{never, open, open, never, never}, -1, 1},
		"not the ends":    {singing(321, 389), []int{never, never, never, never, never}, -1, -1},
		"within":          {singing(310, 310), []int{never, open, never, never, never}, -1, 1},
		"boils later":     {singing(200, 500), []int{sure, sure, sure, open, never}, 0, 0},
		"late":            {singing(643, 994), []int{never, never, never, open, sure}, 4, 3},
		"surely only":     {singing(391, 726), []int{never, never, open, sure, open}, 3, 2},
		"from the first":  {singing(200, 200), []int{sure, never, never, never, never}, 0, 0},
	} {
		l := must[[]int](t)(hearth.Sings(c.k, fireF(), nil, 4))
		a, b, e := hearth.When(c.k, fireF(), nil, 4)
		if !slices.Equal(l, c.want) || a != c.sure || b != c.perhaps || e != api.OK {
			t.Error(name, l, a, b, e)
		}
	}
	for _, c := range []struct{ minutes, sure, perhaps int }{{0, -1, -1}, {1, -1, -1}, {2, -1, 2}, {3, 3, 2}, {300, 3, 2}} {
		a, b, e := hearth.When(kettleK(), fireF(), nil, c.minutes)
		if l := must[[]int](t)(hearth.Sings(kettleK(), fireF(), nil, c.minutes)); len(l) != c.minutes+1 || a != c.sure || b != c.perhaps || e != api.OK {
			t.Error(c, l, a, b, e)
		}
	}
}

func TestMinutesThatAreNone(t *testing.T) {
	for _, minutes := range []int{-1, 301, math.MinInt, math.MaxInt} {
		warmths, a := hearth.Run(kettleK(), fireF(), nil, minutes)
		verdicts, b := hearth.Sings(kettleK(), fireF(), nil, minutes)
		sure, perhaps, c := hearth.When(kettleK(), fireF(), nil, minutes)
		if a != api.ErrRange || b != api.ErrRange || c != api.ErrRange || len(warmths)+len(verdicts) > 0 || sure != 0 || perhaps != 0 {
			t.Error(minutes, warmths, verdicts, sure, perhaps, a, b, c)
		}
	}
}

// P7.3

func TestLay(t *testing.T) {
	hot := kettleWith(func(k *api.Kettle) { k.Sing, k.Boil = 600, 1000 })
	warm := kettleWith(func(k *api.Kettle) { k.Warm = one(500) })
	// Of four equal coals that are lit, two are needed, in whichever places they are.
	lit := api.Coal{Catch: one(1), Burn: one(9), Heat: one(10), Lit: true}
	weak := api.Coal{Catch: one(1), Burn: one(9), Heat: one(1), Lit: true}
	cold := api.Coal{Catch: one(1), Burn: one(9), Heat: one(10)}
	still := api.Kettle{Water: 1, Gain: 1, Sing: 20, Boil: 1000}
	for name, c := range map[string]struct {
		k        api.Kettle
		f        api.Fire
		l        []api.Pour
		from, to int
		want     []int
		e        api.Errno
	}{
		"3 to 5":          {kettleK(), fireF(), nil, 3, 5, []int{0}, api.OK},
		"6 to 6":          {kettleK(), fireF(), nil, 6, 6, nil, api.ErrMissing},
		"hot":             {hot, fireF(), nil, 4, 6, []int{0, 1}, api.OK},
		"warm":            {warm, fireF(), nil, 0, 3, nil, api.OK},
		"warm, no coals":  {warm, api.Fire{}, nil, 0, 3, nil, api.OK},
		"warm at first":   {warm, fireF(), nil, 0, 0, nil, api.OK},
		"cold, no coals":  {kettleK(), api.Fire{}, nil, 0, 0, nil, api.ErrMissing},
		"cold at first":   {kettleK(), fireF(), nil, 0, 3, nil, api.ErrMissing},
		"two":             {still, api.Fire{Coals: []api.Coal{lit, lit, lit, lit}}, nil, 1, 1, []int{0, 1}, api.OK},
		"the last two":    {still, api.Fire{Coals: []api.Coal{weak, weak, lit, weak, lit}}, nil, 1, 1, []int{2, 4}, api.OK},
		"the first pair":  {still, api.Fire{Coals: []api.Coal{lit, weak, lit, lit}}, nil, 1, 1, []int{0, 2}, api.OK},
		"one is enough":   {still, api.Fire{Coals: []api.Coal{weak, lit, weak, lit}}, nil, 2, 4, []int{1}, api.OK},
		"all of them":     {still, api.Fire{Coals: slices.Repeat([]api.Coal{weak}, 8)}, []api.Pour{{Minute: 1, Ladles: 1, Warm: 32}}, 1, 1, []int{0, 1, 2, 3, 4, 5, 6, 7}, api.OK},
		"boils with more": {kettleWith(func(k *api.Kettle) { k.Water, k.Gain, k.Lose, k.Warm, k.Sing, k.Boil = 1, 1, 0, one(0), 11, 19 }), api.Fire{Coals: []api.Coal{lit, lit, weak}}, nil, 1, 1, []int{0, 2}, api.OK},
		// A coal that gives no heat may be needed, to light another one.
		"no bridge": {still, api.Fire{Coals: []api.Coal{cold, {Catch: one(1), Burn: one(9)}, lit}, Touches: []api.Touch{{A: 2, B: 1}, {A: 0, B: 1}}}, nil, 3, 3, []int{2}, api.OK},
		"a bridge":  {kettleWith(func(k *api.Kettle) { k.Water, k.Gain, k.Lose, k.Warm, k.Sing = 1, 1, 0, one(0), 40 }), api.Fire{Coals: []api.Coal{cold, {Catch: one(1), Burn: one(9)}, lit}, Touches: []api.Touch{{A: 2, B: 1}, {A: 0, B: 1}}}, nil, 3, 3, []int{0, 1, 2}, api.OK},
		// The last minute counts, and so does each one between.
		"too late":   {still, api.Fire{Coals: []api.Coal{lit, lit}}, []api.Pour{{Minute: 5, Ladles: 9}}, 2, 5, nil, api.ErrMissing},
		"until":      {still, api.Fire{Coals: []api.Coal{lit, lit}}, []api.Pour{{Minute: 5, Ladles: 9}}, 2, 4, []int{0}, api.OK},
		"in between": {still, api.Fire{Coals: []api.Coal{lit, lit}}, []api.Pour{{Minute: 3, Ladles: 9}, {Minute: 4, Ladles: 20, Warm: 1000}}, 2, 4, nil, api.ErrMissing},
		"to the end": {warm, fireF(), nil, 0, 300, nil, api.ErrMissing},
		"a calm end": {kettleWith(func(k *api.Kettle) { k.Warm, k.Lose = one(500), 0 }), fireF(), nil, 0, 300, nil, api.OK},
	} {
		if l, e := hearth.Lay(c.k, c.f, c.l, c.from, c.to); e != c.e || !slices.Equal(l, c.want) {
			t.Error(name, l, e)
		}
	}
}

func TestLayRefuses(t *testing.T) {
	nine := api.Fire{Coals: slices.Repeat(fireF().Coals, 3)}
	for i, c := range []struct {
		k        api.Kettle
		f        api.Fire
		l        []api.Pour
		from, to int
		e        api.Errno
	}{
		{kettleK(), fireF(), nil, -1, 0, api.ErrRange}, {kettleK(), fireF(), nil, 0, -1, api.ErrRange}, {kettleK(), fireF(), nil, 0, 301, api.ErrRange}, {kettleK(), fireF(), nil, 301, 300, api.ErrRange}, {kettleK(), fireF(), nil, 301, 301, api.ErrRange}, {kettleK(), fireF(), nil, math.MaxInt, math.MinInt, api.ErrRange},
		{kettleK(), fireF(), nil, 4, 3, api.ErrOrder}, {kettleK(), fireF(), nil, 300, 0, api.ErrOrder},
		{kettleK(), nine, nil, 3, 3, api.ErrFull}, {kettleK(), nine, nil, 4, 3, api.ErrOrder}, {kettleK(), nine, nil, -1, 3, api.ErrRange}, {kettleK(), full(), nil, 0, 300, api.ErrFull},
		{kettleK(), nine, []api.Pour{{}}, 4, 3, api.ErrRange}, {kettleK(), nine, []api.Pour{{Ladles: 41}}, 4, 3, api.ErrOver}, {kettleWith(func(k *api.Kettle) { k.Boil = 0 }), nine, nil, -1, 3, api.ErrOrder},
		{kettleK(), api.Fire{Coals: make([]api.Coal, 13)}, nil, 4, 3, api.ErrFull}, {kettleK(), api.Fire{Coals: []api.Coal{{Catch: span(2, 1)}}}, nil, -1, 3, api.ErrOrder},
	} {
		if l, e := hearth.Lay(c.k, c.f, c.l, c.from, c.to); e != c.e || len(l) > 0 {
			t.Error(i, l, e)
		}
	}
	// Eight coals are not too many.
	if _, e := hearth.Lay(kettleK(), api.Fire{Coals: nine.Coals[:8]}, nil, 3, 3); e != api.OK {
		t.Error(e)
	}
}

// P7.4

// planF is the plan of F.
const planF = "coal 1 1 3 4 10 12 lit\ncoal 2 3 5 5 20 20 cold\ncoal 4 6 2 2 5 5 cold\ntouch 0 1\ntouch 1 2\nend 3\n"

func TestPlans(t *testing.T) {
	largest := strings.Repeat("coal 300 300 300 300 1000 1000 cold\n", 12) + strings.Repeat("touch 11 10\n", 40) + "end 12\n"
	for i, c := range []struct {
		f    api.Fire
		text string
	}{
		{fireF(), planF}, {api.Fire{}, "end 0\n"},
		{api.Fire{Coals: []api.Coal{{Catch: span(1, 300), Burn: span(2, 299), Heat: span(0, 1000), Lit: true}}}, "coal 1 300 2 299 0 1000 lit\nend 1\n"},
		{fireWith(func(f *api.Fire) {
			f.Coals, f.Touches = f.Coals[1:], []api.Touch{{A: 1, B: 0}, {A: 0, B: 1}, {A: 1, B: 0}}
		}), "coal 2 3 5 5 20 20 cold\ncoal 4 6 2 2 5 5 cold\ntouch 1 0\ntouch 0 1\ntouch 1 0\nend 2\n"},
		{api.Fire{Coals: slices.Repeat([]api.Coal{{Catch: one(300), Burn: one(300), Heat: one(1000)}}, 12), Touches: slices.Repeat([]api.Touch{{A: 11, B: 10}}, 40)}, largest},
	} {
		if text, e := hearth.Write(c.f); text != c.text || e != api.OK {
			t.Errorf("%v %q %v", i, text, e)
		}
		if f, row, e := hearth.Read(c.text); !same(f, c.f) || row != 0 || e != api.OK {
			t.Error(i, f, row, e)
		}
	}
}

// coalRow is a row of a coal, endRow the last row of a plan of one coal.
const coalRow, endRow = "coal 1 1 3 4 10 12 lit\n", "end 1\n"

// wrongPlans are texts that are no plans, each with its row and its error.
func wrongPlans() map[string]struct {
	row int
	e   api.Errno
} {
	type wrong = struct {
		row int
		e   api.Errno
	}
	l := map[string]wrong{
		"":                                {1, api.ErrForm},
		coalRow:                           {2, api.ErrForm},
		coalRow + coalRow + "touch 0 1\n": {4, api.ErrForm},
		"end 0":                           {1, api.ErrForm},
		"end 1":                           {1, api.ErrForm},
		coalRow + "end 1":                 {2, api.ErrForm},
		"coal 1 1 3 4 10 12 lit":          {1, api.ErrForm},
		coalRow + "touch 0 1":             {2, api.ErrForm},
		coalRow + "\n" + endRow:           {2, api.ErrForm},
		coalRow + endRow + "\n":           {3, api.ErrForm},
		coalRow + endRow + " ":            {3, api.ErrForm},
		coalRow + endRow + endRow:         {3, api.ErrForm},
		coalRow + endRow + coalRow:        {3, api.ErrForm},
		coalRow + endRow + "touch 0 1\n":  {3, api.ErrForm},
		"end 1\nx":                        {2, api.ErrForm},
		"end 0\nend 0\n":                  {2, api.ErrForm},
		coalRow + coalRow + "touch 0 1\n" + coalRow + "end 3\n": {4, api.ErrForm},
		"touch 0 1\n" + coalRow + coalRow + "end 2\n":           {2, api.ErrForm},
		"touch 0 1\n" + coalRow + "end 9\n":                     {2, api.ErrForm},
		// How many coals there are is looked at behind all rows, and before the coals themselves.
		coalRow + "end 0\n":                                               {2, api.ErrClash},
		coalRow + "end 2\n":                                               {2, api.ErrClash},
		"end 1\n":                                                         {1, api.ErrClash},
		"end 999999\n":                                                    {1, api.ErrClash},
		coalRow + "touch 0 0\nend 3\n":                                    {3, api.ErrClash},
		"coal 0 0 0 0 0 0 lit\nend 0\n":                                   {2, api.ErrClash},
		strings.Repeat(coalRow, 13) + "end 12\n":                          {14, api.ErrClash},
		strings.Repeat(coalRow, 13) + "end 13\n":                          {0, api.ErrFull},
		"coal 0 1 3 4 10 12 lit\nend 1\n":                                 {0, api.ErrRange},
		"coal 1 1 3 4 10 999999 lit\nend 1\n":                             {0, api.ErrRange},
		"coal 2 1 3 4 10 12 cold\nend 1\n":                                {0, api.ErrOrder},
		"coal 1 1 4 3 10 12 cold\nend 1\n":                                {0, api.ErrOrder},
		"coal 1 1 3 4 12 10 cold\nend 1\n":                                {0, api.ErrOrder},
		coalRow + "touch 0 0\nend 1\n":                                    {0, api.ErrClash},
		coalRow + "touch 0 1\nend 1\n":                                    {0, api.ErrMissing},
		coalRow + "touch 999999 0\nend 1\n":                               {0, api.ErrMissing},
		"touch 0 1\nend 0\n":                                              {0, api.ErrMissing},
		coalRow + coalRow + strings.Repeat("touch 0 1\n", 41) + "end 2\n": {0, api.ErrFull},
		strings.Repeat("x", 4000):                                         {1, api.ErrForm},
		strings.Repeat("x", 4001):                                         {0, api.ErrLong},
		strings.Repeat("\n", 4000):                                        {1, api.ErrForm},
		strings.Repeat("\n", 4001):                                        {0, api.ErrLong},
		strings.Repeat(coalRow, 200) + "end 200\n":                        {0, api.ErrLong},
	}
	for _, row := range []string{"coal", "coal lit", "coal 1 1 3 4 10 12", "coal 1 1 3 4 10 lit", "coal 1 1 3 4 10 12 13 lit", "coal 1 1 3 4 10 12 lit lit", "coal 1 1 3 4 10 12 lit cold", "coal 1 1 3 4 10 12 Lit", "coal 1 1 3 4 10 12 COLD", "coal 1 1 3 4 10 12 li", "coal 1 1 3 4 10 12 litt", "coal 1 1 3 4 10 12 0", "coal lit 1 1 3 4 10 12", "Coal 1 1 3 4 10 12 lit", "coals 1 1 3 4 10 12 lit", "1 1 3 4 10 12 lit", "coal1 1 3 4 10 12 lit", "coal  1 1 3 4 10 12 lit", " coal 1 1 3 4 10 12 lit", "coal 1 1 3 4 10 12 lit ", "coal 1 1 3 4 10 12  lit", "coal\t1 1 3 4 10 12 lit", "coal 1 1 3 4 10 12 lit\r", "coal 01 1 3 4 10 12 lit", "coal 1 00 3 4 10 12 lit", "coal 1 1 +3 4 10 12 lit", "coal 1 1 3 -4 10 12 lit", "coal 1 1 3 4 1000000 12 lit", "coal 1 1 3 4 10 000012 lit", "coal 1 1 3 4 10 x lit", "coal 1 1 3 4 10 - lit", "coal 1 1 3 4 10 ٣ lit", "", " ", "lit", "cold 1 1 3 4 10 12", "\x00", "\xff"} {
		l[row+"\nend 1\n"] = wrong{1, api.ErrForm}
	}
	for _, row := range []string{"touch", "touch ", "touch 0", "touch 0 1 2", "touch 0  1", "touch  0 1", "touch 0 1 ", " touch 0 1", "touch 00 1", "touch 0 01", "touch 0 -1", "touch +0 1", "touch 0 1000000", "touch a b", "touch 0 1 lit", "Touch 0 1", "touches 0 1", "touch\t0 1", "touch 0 1\r", "0 1"} {
		l[coalRow+row+"\nend 1\n"] = wrong{2, api.ErrForm}
	}
	for _, row := range []string{"end", "end ", "end 01", "end 00", "end -1", "end +1", "end -", "end  1", "end 1 ", " end 1", "end 1 1", "end x", "end 1000000", "End 1", "ends 1", "end1", "end 1\r", "end\t1"} {
		l[coalRow+row+"\n"] = wrong{2, api.ErrForm}
	}
	return l
}

func TestTextsThatAreNoPlans(t *testing.T) {
	for text, c := range wrongPlans() {
		if f, row, e := hearth.Read(text); !isZero(f) || row != c.row || e != c.e {
			t.Errorf("%.60q: %v %v %v, want %v %v", text, f, row, e, c.row, c.e)
		}
	}
}

// A text may be as long as the longest one.
func TestTextsOfAnyLength(t *testing.T) {
	for length := len(planF); length <= api.MaxPlan+1; length++ {
		text := planF + strings.Repeat("x", length-len(planF))
		row, want := 7, api.ErrForm
		switch {
		case length > api.MaxPlan:
			row, want = 0, api.ErrLong
		case length == len(planF):
			row, want = 0, api.OK
		}
		if _, got, e := hearth.Read(text); got != row || e != want {
			t.Fatal(length, got, e)
		}
	}
}

// read is what Read has to return for at most 4,000 bytes, by patterns for the rows.
func read(text string) (f api.Fire, row int, e api.Errno) {
	const number = `(0|[1-9][0-9]{0,5})`
	coal := regexp.MustCompile(`\Acoal ` + strings.Repeat(number+" ", 6) + `(lit|cold)\n\z`)
	touch := regexp.MustCompile(`\Atouch ` + number + ` ` + number + `\n\z`)
	end := regexp.MustCompile(`\Aend ` + number + `\n\z`)
	value := func(s string) int { n, _ := strconv.Atoi(s); return n }
	for i, line := range strings.SplitAfter(text, "\n") {
		switch {
		case row == 0 && len(f.Touches) == 0 && coal.MatchString(line):
			m := coal.FindStringSubmatch(line)
			pair := func(i int) api.Span { return span(value(m[i]), value(m[i+1])) }
			f.Coals = append(f.Coals, api.Coal{Catch: pair(1), Burn: pair(3), Heat: pair(5), Lit: m[7] == "lit"})
		case row == 0 && touch.MatchString(line):
			m := touch.FindStringSubmatch(line)
			f.Touches = append(f.Touches, api.Touch{A: value(m[1]), B: value(m[2])})
		case row == 0 && end.MatchString(line):
			row = i + 1
			if value(end.FindStringSubmatch(line)[1]) != len(f.Coals) {
				e = api.ErrClash
			}
		case row > 0 && line == "":
			// Nothing stands behind the row "end".
		default:
			return api.Fire{}, i + 1, api.ErrForm
		}
	}
	if e == api.ErrClash {
		return api.Fire{}, row, e
	}
	if e = hearth.Check(f); e != api.OK {
		return api.Fire{}, 0, e
	}
	return f, 0, api.OK
}

// edits returns all texts that come of one by a change, an insertion or a deletion of one byte, or of one row.
func edits(text string) []string {
	var l []string
	for i := range len(text) + 1 {
		for _, b := range []string{" ", "\n", "-", "0", "1", "2", "9", "e", "x", "\x00", "\xff"} {
			l = append(l, text[:i]+b+text[i:])
			if i < len(text) {
				l = append(l, text[:i]+b+text[i+1:])
			}
		}
		if i < len(text) {
			l = append(l, text[:i]+text[i+1:])
		}
		l = append(l, text[:i], text[i:])
	}
	whole := strings.SplitAfter(text, "\n")
	for i := range whole {
		l = append(l, strings.Join(slices.Delete(slices.Clone(whole), i, i+1), ""))
		for k := range whole {
			l = append(l, strings.Join(slices.Insert(slices.Clone(whole), i, whole[k]), ""))
		}
	}
	return l
}

// Texts that are nearly plans are read, or refused, as the chapter says.
func TestTextsThatAreNearlyPlans(t *testing.T) {
	said := map[api.Errno]int{}
	for _, text := range []string{planF, "end 0\n", coalRow + endRow, "coal 300 300 9 10 0 0 cold\ncoal 1 1 1 1 99 100 lit\ntouch 1 0\nend 2\n", "touch 0 1\nend 0\n"} {
		for _, edited := range edits(text) {
			f, row, e := hearth.Read(edited)
			want, wantRow, wantE := read(edited)
			if !same(f, want) || row != wantRow || e != wantE {
				t.Fatalf("%q: %v %v %v, want %v %v %v", edited, f, row, e, want, wantRow, wantE)
			}
			said[e]++
		}
	}
	for _, e := range []api.Errno{api.OK, api.ErrForm, api.ErrClash, api.ErrMissing, api.ErrRange, api.ErrOrder} {
		if said[e] < 5 {
			t.Error(said)
		}
	}
}
