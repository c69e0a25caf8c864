package span_test

import (
	"math"
	"testing"

	"aloeswood/api"
	"aloeswood/span"
)

func TestNumbersWithinBounds(t *testing.T) {
	for first := -3; first <= 3; first++ {
		for last := -3; last <= 3; last++ {
			within := map[int]bool{}
			for number := first; number <= last; number++ {
				within[number] = true
			}
			for _, number := range []int{math.MinInt, -4, -3, -2, -1, 0, 1, 2, 3, 4, math.MaxInt} {
				if span.Within(number, first, last) != within[number] {
					t.Error(number, first, last)
				}
			}
		}
	}
	for _, number := range []int{math.MinInt, 0, math.MaxInt} {
		if !span.Within(number, math.MinInt, math.MaxInt) || !span.Within(number, number, number) || span.Within(number, math.MaxInt, math.MinInt) {
			t.Error(number)
		}
	}
}

func TestSpansWithinBounds(t *testing.T) {
	for s, want := range map[api.Span]api.Errno{
		{Lo: 2, Hi: 2}: api.OK, {Lo: 2, Hi: 5}: api.OK, {Lo: 5, Hi: 5}: api.OK, {Lo: 3, Hi: 4}: api.OK,
		{Lo: 1, Hi: 5}: api.ErrRange, {Lo: 2, Hi: 6}: api.ErrRange, {Lo: 1, Hi: 6}: api.ErrRange, {Lo: 6, Hi: 6}: api.ErrRange,
		// What is out of bounds comes before what is out of order.
		{Lo: 6, Hi: 2}: api.ErrRange, {Lo: 5, Hi: 1}: api.ErrRange, {Lo: math.MaxInt, Hi: math.MinInt}: api.ErrRange,
		{Lo: 5, Hi: 2}: api.ErrOrder, {Lo: 3, Hi: 2}: api.ErrOrder, {Lo: 5, Hi: 4}: api.ErrOrder,
	} {
		if e := span.Check(s, 2, 5); e != want {
			t.Error(s, e, want)
		}
	}
}
