package score

import (
	"cmp"

	"aloeswood/api"
)

// standing is what the keys look at: the score of a guest, and its seat.
type standing struct {
	api.Score
	seat int
}

// amount says of how much of a key a guest has.
type amount func(standing) int

// amounts returns the amounts of all keys, by their numbers; a guest that has more of one is before another one.
func amounts() [api.MaxKeys + 1]amount {
	return [...]amount{
		api.KeyPoints:  func(g standing) int { return g.Points },
		api.KeyPackets: func(g standing) int { return g.Packets },
		api.KeyPairs:   func(g standing) int { return g.Pairs },
		api.KeyHonour:  func(g standing) int { return g.Honour },
		api.KeyStart:   func(g standing) int { return g.Start },
		// The lesser seat is the better one.
		api.KeySeat: func(g standing) int { return -g.seat },
	}
}

// Rank returns the score and the place of each guest.
func Rank(s api.Scoring, truth []int, answers [][]int) (scores []api.Score, places []int, e api.Errno) {
	if e := checkBoth(s, truth); e != api.OK {
		return nil, nil, e
	}
	if len(answers) > api.MaxGuests {
		return nil, nil, api.ErrFull
	}
	for _, answer := range answers {
		if e := checkAnswer(answer, len(truth)); e != api.OK {
			return nil, nil, e
		}
	}
	for _, answer := range answers {
		scores = append(scores, marked(s, truth, answer))
	}
	return scores, placed(s.Keys, scores), api.OK
}

// placed returns the places of guests, by their scores.
func placed(keys []int, scores []api.Score) []int {
	places := make([]int, len(scores))
	for i, mine := range scores {
		places[i] = 1
		for j, other := range scores {
			if isBefore(keys, standing{other, j}, standing{mine, i}) {
				places[i]++
			}
		}
	}
	return places
}

// isBefore tells whether the guest a is before the guest b.
func isBefore(keys []int, a, b standing) bool {
	of := amounts()
	for _, key := range keys {
		if order := cmp.Compare(of[key](a), of[key](b)); order != 0 {
			return order > 0
		}
	}
	return false
}

// Result returns the score and the place of each guest at a table that is shown.
func Result(s api.Scoring, truth []int, t api.Table) (scores []api.Score, places []int, e api.Errno) {
	if e := checkBoth(s, truth); e != api.OK {
		return nil, nil, e
	}
	if e := CheckTable(t); e != api.OK {
		return nil, nil, e
	}
	if len(truth) != t.Packets {
		return nil, nil, api.ErrForm
	}
	if t.State != api.TableShown {
		return nil, nil, api.ErrState
	}
	return Rank(s, truth, t.Answers)
}
