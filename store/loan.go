package store

import "aloeswood/api"

// chosen returns the members of a list whose bits are set in a choice. The bit of the last one is 1, that of the one before it 2, and so on: so of two choices of as many members, the one whose list comes first is the greater number.
func chosen[T any](list []T, choice uint) []T {
	var members []T
	for i, member := range list {
		if choice>>(len(list)-1-i)&1 == 1 {
			members = append(members, member)
		}
	}
	return members
}

// contradict tells whether two loans contradict each other.
func contradict(l, other api.Loan) bool {
	return l.Thing == other.Thing && l.From <= other.To && other.From <= l.To
}

// canBeAccepted tells whether no two loans contradict each other.
func canBeAccepted(l []api.Loan) bool {
	for i, loan := range l {
		for _, other := range l[:i] {
			if contradict(loan, other) {
				return false
			}
		}
	}
	return true
}

// worthOf returns what loans are worth together.
func worthOf(l []api.Loan) int {
	worth := 0
	for _, loan := range l {
		worth += loan.Worth
	}
	return worth
}

// Lend returns the numbers of the loans that are worth the most of those that can be accepted together, the first ones of the fewest; and what they are worth.
func Lend(l []api.Loan) (loans []int, worth int, e api.Errno) {
	if e := checkLoans(l); e != api.OK {
		return nil, 0, e
	}
	// No loans can always be accepted.
	var best uint
	many := 0
	for choice := range uint(1) << len(l) {
		accepted := chosen(l, choice)
		now := worthOf(accepted)
		// A later choice is a greater number, so of as many loans its list comes first.
		if now < worth || now == worth && len(accepted) > many || !canBeAccepted(accepted) {
			continue
		}
		best, many, worth = choice, len(accepted), now
	}
	numbers := make([]int, len(l))
	for i := range numbers {
		numbers[i] = i
	}
	return chosen(numbers, best), worth, api.OK
}
