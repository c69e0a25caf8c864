package house

import (
	"slices"
	"strconv"

	"aloeswood/api"
	"aloeswood/game"
	"aloeswood/score"
	"aloeswood/seat"
)

// isGathered tells whether a gathering is going on.
func (w *work) isGathered() bool { return len(w.Guests) > 0 }

func (w *work) gather(s said) ([]string, api.Errno) {
	if w.isGathered() {
		return nil, api.ErrState
	}
	guests, e := w.invited(s.words)
	if e != api.OK {
		return nil, e
	}
	w.Guests = w.seated(guests)
	// The game is valid, and the picks are those of packets that are in the bags, so there is no error.
	w.Course, _ = game.Play(w.house.Game, w.picks())
	w.Table = laid(len(w.Course), len(w.Guests))
	return append([]string{"seats"}, w.names(w.Guests)...), api.OK
}

// invited returns the numbers of the members that words name, ascending.
func (w *work) invited(words []string) ([]int, api.Errno) {
	var l []int
	for _, word := range words {
		number, e := w.member(word)
		if e != api.OK {
			return nil, e
		}
		l = append(l, number)
	}
	slices.Sort(l)
	if l = slices.Compact(l); len(l) < len(words) {
		return nil, api.ErrExists
	}
	return l, api.OK
}

// seated returns the numbers of some members, which are given ascending, by their seats.
func (w *work) seated(guests []int) []int {
	p := api.Party{Rules: []api.Rule{{Kind: api.RuleRank}}}
	for _, guest := range guests {
		m := w.Members[guest]
		p.Guests = append(p.Guests, api.Guest{Name: m.Name, Rank: m.Grade})
	}
	for a := range guests {
		for b := a + 1; b < len(guests); b++ {
			if w.head(guests[a]) != w.head(guests[b]) {
				p.Rules = append(p.Rules, api.Rule{Kind: api.RuleApart, A: a, B: b, Weight: 1})
			}
		}
	}
	// There always is an order by ranks, so there is no error.
	order, _, _ := seat.Best(p)
	var seats []int
	for _, guest := range order {
		seats = append(seats, guests[guest])
	}
	return seats
}

// stride is by how many numbers the picks of a gathering begin behind those of the one before.
const stride = 7

// picks returns the picks of the next gathering: the numbers of the house, one after the other, over and over again, each one modulo how many packets are in the bag.
func (w *work) picks() []int {
	numbers, first := w.house.Numbers, stride*len(w.Records)
	var inside [api.MaxBags]int
	var picks []int
	for _, d := range w.house.Game.Deals {
		switch d.Kind {
		case api.DealMix:
			inside[d.Bag] += d.Count
		case api.DealPour:
			inside[d.Other] += inside[d.Bag]
			inside[d.Bag] = 0
		case api.DealAside, api.DealPass:
			for range d.Count {
				number := numbers[(first+len(picks))%len(numbers)]
				picks = append(picks, number%inside[d.Bag])
				inside[d.Bag]--
			}
		}
	}
	return picks
}

// laid returns an open table at which nothing was passed yet.
func laid(packets, guests int) api.Table {
	t := api.Table{Packets: packets, State: api.TableOpen}
	for range guests {
		t.Answers = append(t.Answers, slices.Repeat([]int{none}, packets))
	}
	return t
}

// deed does a deed at the table of the gathering.
func (w *work) deed(d api.Deed) ([]string, api.Errno) {
	if !w.isGathered() {
		return nil, api.ErrState
	}
	t, e := score.Do(w.Table, d)
	if e != api.OK {
		return nil, e
	}
	w.Table = t
	return done()
}

func (w *work) pass(said) ([]string, api.Errno) { return w.deed(api.Deed{Kind: api.DeedPass}) }

func (w *work) pause(said) ([]string, api.Errno) { return w.deed(api.Deed{Kind: api.DeedPause}) }

func (w *work) resume(said) ([]string, api.Errno) { return w.deed(api.Deed{Kind: api.DeedResume}) }

func (w *work) close(said) ([]string, api.Errno) { return w.deed(api.Deed{Kind: api.DeedClose}) }

func (w *work) write(s said) ([]string, api.Errno) {
	if !w.isGathered() {
		return nil, api.ErrState
	}
	number, e := w.member(s.words[0])
	if e != api.OK {
		return nil, e
	}
	guest, e := found(slices.Index(w.Guests, number))
	if e != api.OK {
		return nil, e
	}
	return w.deed(api.Deed{Kind: api.DeedWrite, Guest: guest, Packet: s.numbers[0], Number: s.numbers[1]})
}

func (w *work) open(said) ([]string, api.Errno) {
	if _, e := w.deed(api.Deed{Kind: api.DeedOpen}); e != api.OK {
		return nil, e
	}
	// The game, its course and the scoring are valid, and the table is shown, so there are no errors.
	truth, _ := game.Due(w.house.Game, api.Ask{Kind: api.AskSame}, w.Course)
	scores, places, _ := score.Result(w.house.Scoring, truth, w.Table)
	r := api.Record{Day: w.Day, Guests: w.Guests, Places: places}
	for _, s := range scores {
		r.Points = append(r.Points, s.Points)
	}
	w.Records = append(w.Records, r)
	w.Guests, w.Course, w.Table = nil, nil, api.Table{}
	return append([]string{"points"}, w.results(r)...), api.OK
}

// results returns what a record says of each seat: the name, the points and the place.
func (w *work) results(r api.Record) []string {
	var words []string
	for seat, guest := range w.names(r.Guests) {
		words = append(words, guest, strconv.Itoa(r.Points[seat]), strconv.Itoa(r.Places[seat]))
	}
	return words
}
