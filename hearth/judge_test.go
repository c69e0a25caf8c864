package hearth_test

import (
	"math/rand/v2"

	"aloeswood/api"
)

// This is a judge of what the package says: it burns fires as they truly burn, minute by minute, and lets water be as warm as it may be, warmth by warmth.

// truth is the true numbers of a coal.
type truth struct{ catch, burn, heat int }

// truly returns in which minute each coal begins, if these are its true numbers.
func truly(f api.Fire, l []truth) []int {
	begins := make([]int, len(l))
	last := 0
	for i, c := range f.Coals {
		begins[i] = api.Unlit
		if c.Lit {
			begins[i] = 0
		}
		last += l[i].catch
	}
	for minute := 1; minute <= last; minute++ {
		for _, t := range f.Touches {
			for _, way := range [][2]int{{t.A, t.B}, {t.B, t.A}} {
				from, to := way[0], way[1]
				isNow := begins[from] != api.Unlit && minute == begins[from]+l[to].catch
				if isNow && l[to].catch <= l[from].burn && begins[to] > minute {
					begins[to] = minute
				}
			}
		}
	}
	return begins
}

// heatThen returns the true heat of a minute.
func heatThen(begins []int, l []truth, minute int) int {
	sum := 0
	for i, c := range l {
		if begins[i] <= minute && minute <= begins[i]+c.burn-1 {
			sum += c.heat
		}
	}
	return sum
}

// someTruth returns true numbers of the coals of a fire; they are often at the ends of what is known.
func someTruth(random *rand.Rand, f api.Fire) []truth {
	pick := func(s api.Span) int { return [...]int{s.Lo, s.Hi, some(random, s)}[random.IntN(3)] }
	var l []truth
	for _, c := range f.Coals {
		l = append(l, truth{pick(c.Catch), pick(c.Burn), pick(c.Heat)})
	}
	return l
}

// truths hands out all true numbers that the coals of a fire may have, but for their heats: these are the least ones. What is handed out changes afterwards.
func truths(f api.Fire) func(yield func([]truth) bool) {
	return func(yield func([]truth) bool) {
		l := make([]truth, len(f.Coals))
		var fill func(i int) bool
		fill = func(i int) bool {
			if i == len(l) {
				return yield(l)
			}
			c := f.Coals[i]
			for catch := c.Catch.Lo; catch <= c.Catch.Hi; catch++ {
				for burn := c.Burn.Lo; burn <= c.Burn.Hi; burn++ {
					l[i] = truth{catch, burn, c.Heat.Lo}
					if !fill(i + 1) {
						return false
					}
				}
			}
			return true
		}
		fill(0)
	}
}

// roundings returns the greatest whole number that is not above a number of parts, and the least one that is not below it: by looking at whole numbers one by one, from one that is near.
func roundings(number, parts int) api.Span {
	low := number/parts - 2
	for (low+1)*parts <= number {
		low++
	}
	high := low
	for high*parts < number {
		high++
	}
	return span(low, high)
}

// afterMinute returns the least and the greatest number to which a true warmth may change in a minute with a true heat.
func afterMinute(k api.Kettle, ladles, warmth, heat int) api.Span {
	s := roundings(ladles*(api.Mil*warmth-k.Lose*(warmth-k.Room))+api.Mil*k.Gain*heat, ladles*api.Mil)
	return span(min(s.Lo, api.MaxWarmth), min(s.Hi, api.MaxWarmth))
}

// afterPour returns how many ladles there are after a pour, and the least and the greatest number to which a true warmth may change.
func afterPour(ladles, warmth int, p api.Pour) (int, api.Span) {
	if p.Ladles < 0 {
		return ladles + p.Ladles, one(warmth)
	}
	return ladles + p.Ladles, roundings(warmth*ladles+p.Warm*p.Ladles, ladles+p.Ladles)
}

// warmths returns what is known of the warmth in each minute, if this is known of the heats, by looking at each warmth and each heat.
func warmths(k api.Kettle, heats []api.Span, l []api.Pour) []api.Span {
	var all []api.Span
	ladles, warm := k.Water, k.Warm
	for minute, heat := range heats {
		for _, p := range l {
			if p.Minute == minute {
				mixed := none()
				for warmth := warm.Lo; warmth <= warm.Hi; warmth++ {
					_, s := afterPour(ladles, warmth, p)
					mixed = both(mixed, s)
				}
				ladles, warm = ladles+p.Ladles, mixed
			}
		}
		all = append(all, warm)
		next := none()
		for warmth := warm.Lo; warmth <= warm.Hi; warmth++ {
			for h := heat.Lo; h <= heat.Hi; h++ {
				next = both(next, afterMinute(k, ladles, warmth, h))
			}
		}
		warm = next
	}
	return all
}

// none is a span of no numbers; both is the least span that has two others.
func none() api.Span { return span(api.Unlit, -api.Unlit) }

func both(a, b api.Span) api.Span { return span(min(a.Lo, b.Lo), max(a.Hi, b.Hi)) }

// trulyWarm returns how warm the water is in each minute, after its pours, if these are the true heats, and all else that is not known is any number.
func trulyWarm(random *rand.Rand, k api.Kettle, heats []int, l []api.Pour) []int {
	pick := func(s api.Span) int { return [...]int{s.Lo, s.Hi}[random.IntN(2)] }
	ladles, warmth := k.Water, pick(k.Warm)
	if random.IntN(2) == 0 {
		warmth = some(random, k.Warm)
	}
	var all []int
	for minute, heat := range heats {
		for _, p := range l {
			if p.Minute == minute {
				var s api.Span
				ladles, s = afterPour(ladles, warmth, p)
				warmth = pick(s)
			}
		}
		all = append(all, warmth)
		warmth = pick(afterMinute(k, ladles, warmth, heat))
	}
	return all
}

// alone returns a fire of which only some coals are left.
func alone(f api.Fire, left []bool) api.Fire {
	var few api.Fire
	numbers := map[int]int{}
	for i, c := range f.Coals {
		if left[i] {
			numbers[i] = len(few.Coals)
			few.Coals = append(few.Coals, c)
		}
	}
	for _, t := range f.Touches {
		if left[t.A] && left[t.B] {
			few.Touches = append(few.Touches, api.Touch{A: numbers[t.A], B: numbers[t.B]})
		}
	}
	return few
}

// taking returns which coals of so many are left, by a list of them.
func taking(coals int, choice []int) []bool {
	left := make([]bool, coals)
	for _, i := range choice {
		left[i] = true
	}
	return left
}
