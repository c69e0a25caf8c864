// Package span says what is within bounds: numbers, and spans of numbers; the layers whose things have them share it.
package span

import "aloeswood/api"

// Within tells whether a number is from a first to a last one.
func Within(number, first, last int) bool { return first <= number && number <= last }

// Check returns the first error of a span whose numbers have to be from a first to a last one.
func Check(s api.Span, first, last int) api.Errno {
	if !Within(s.Lo, first, last) || !Within(s.Hi, first, last) {
		return api.ErrRange
	}
	if s.Lo > s.Hi {
		return api.ErrOrder
	}
	return api.OK
}
