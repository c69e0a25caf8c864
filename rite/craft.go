package rite

import (
	"slices"

	"aloeswood/api"
)

// craft is how acts of a kind are done.
type craft struct {
	hand, thing, cell, other bool // which fields of an act the kind names

	isPossible func(*scene, api.Act) bool
	touches    func(*scene, api.Act) []part
	do         func(*scene, api.Act) // for an act that is possible
}

// crafts returns how acts are done, by their kinds.
func crafts() [api.ActOpen + 1]craft {
	return [...]craft{
		api.ActStep:  {cell: true, isPossible: (*scene).canStep, touches: (*scene).touchCells, do: (*scene).step},
		api.ActTake:  {hand: true, thing: true, isPossible: (*scene).canTake, touches: (*scene).touchThing, do: (*scene).take},
		api.ActLay:   {hand: true, isPossible: (*scene).canLay, touches: (*scene).touchHand, do: (*scene).lay},
		api.ActGive:  {hand: true, other: true, isPossible: (*scene).canGive, touches: (*scene).touchOther, do: (*scene).give},
		api.ActWipe:  {hand: true, isPossible: (*scene).canWipe, touches: (*scene).touchHands, do: (*scene).wipe},
		api.ActPour:  {hand: true, isPossible: (*scene).canPour, touches: (*scene).touchHands, do: (*scene).pour},
		api.ActCover: {hand: true, isPossible: (*scene).canCover, touches: (*scene).touchHand, do: (*scene).cover},
		api.ActOpen:  {hand: true, isPossible: (*scene).canOpen, touches: (*scene).touchHand, do: (*scene).open},
	}
}

// isPossible tells whether an act is possible in a scene.
func (s *scene) isPossible(a api.Act) bool { return s.room.crafts[a.Kind].isPossible(s, a) }

// touches returns what an act touches that is possible in a scene.
func (s *scene) touches(a api.Act) []part { return s.room.crafts[a.Kind].touches(s, a) }

// do does an act that is possible in a scene.
func (s *scene) do(a api.Act) { s.room.crafts[a.Kind].do(s, a) }

// inOtherHand returns an act as it is with the other hand.
func inOtherHand(a api.Act) api.Act {
	a.Hand = 1 - a.Hand
	return a
}

// held returns the thing in the hand of an act, or none.
func (s *scene) held(a api.Act) int { return s.hands[a.Who][a.Hand] }

// heldBeside returns the thing in the other hand of the person, or none.
func (s *scene) heldBeside(a api.Act) int { return s.held(inOtherHand(a)) }

// isHeld tells whether the hand of an act holds a thing that has, of some states, just those that are named.
func (s *scene) isHeld(a api.Act, of, states int) bool {
	thing := s.held(a)
	return thing != none && s.things[thing].State&of == states
}

func (s *scene) canStep(a api.Act) bool {
	return s.room.areNeighbours(s.people[a.Who], a.Cell) && !slices.Contains(s.people[:], a.Cell)
}

func (s *scene) canTake(a api.Act) bool {
	return s.held(a) == none && s.things[a.Thing].Cell == s.people[a.Who]
}

func (s *scene) canLay(a api.Act) bool { return s.held(a) != none }

func (s *scene) canGive(a api.Act) bool {
	return s.held(a) != none && s.room.areNeighbours(s.people[a.Who], s.people[a.Other]) && slices.Contains(s.hands[a.Other][:], none)
}

func (s *scene) canWipe(a api.Act) bool {
	cloth := s.held(a)
	return cloth != none && s.room.rite.Things[cloth].Cloth && s.heldBeside(a) != none
}

func (s *scene) canPour(a api.Act) bool {
	const of = api.StateFull | api.StateCovered
	return s.isHeld(a, of, api.StateFull) && s.isHeld(inOtherHand(a), of, 0)
}

func (s *scene) canCover(a api.Act) bool { return s.isHeld(a, api.StateCovered, 0) }

func (s *scene) canOpen(a api.Act) bool { return s.isHeld(a, api.StateCovered, api.StateCovered) }

func (s *scene) step(a api.Act) { s.people[a.Who] = a.Cell }

func (s *scene) take(a api.Act) {
	s.hands[a.Who][a.Hand] = a.Thing
	s.things[a.Thing].Cell = none
}

func (s *scene) lay(a api.Act) {
	s.things[s.held(a)].Cell = s.people[a.Who]
	s.hands[a.Who][a.Hand] = none
}

func (s *scene) give(a api.Act) {
	// The first one of their hands that is empty.
	hand := slices.Index(s.hands[a.Other][:], none)
	s.hands[a.Other][hand] = s.held(a)
	s.hands[a.Who][a.Hand] = none
}

func (s *scene) wipe(a api.Act) { s.things[s.heldBeside(a)].State |= api.StateClean }

func (s *scene) pour(a api.Act) {
	s.things[s.held(a)].State &^= api.StateFull | api.StateClean
	s.things[s.heldBeside(a)].State |= api.StateFull
}

func (s *scene) cover(a api.Act) { s.things[s.held(a)].State |= api.StateCovered }

func (s *scene) open(a api.Act) { s.things[s.held(a)].State &^= api.StateCovered }

// The sorts of what acts touch.
const (
	ofPeople = iota
	ofThings
	ofCells
)

// part is a person, a thing or a cell.
type part struct{ sort, number int }

func (s *scene) touchCells(a api.Act) []part {
	return []part{{ofPeople, a.Who}, {ofCells, s.people[a.Who]}, {ofCells, a.Cell}}
}

func (s *scene) touchThing(a api.Act) []part {
	return []part{{ofPeople, a.Who}, {ofThings, a.Thing}}
}

func (s *scene) touchHand(a api.Act) []part {
	return []part{{ofPeople, a.Who}, {ofThings, s.held(a)}}
}

func (s *scene) touchOther(a api.Act) []part {
	return append(s.touchHand(a), part{ofPeople, a.Other})
}

func (s *scene) touchHands(a api.Act) []part {
	return append(s.touchHand(a), part{ofThings, s.heldBeside(a)})
}
