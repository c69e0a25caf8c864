package rite

import (
	"slices"

	"aloeswood/api"
)

// none is what an empty hand holds, and the cell of what is in a hand.
const none = -1

// room is what does not change in a rite while it is run.
type room struct {
	rite   api.Rite
	crafts [api.ActOpen + 1]craft // by the kinds of acts
}

// areNeighbours tells whether two cells are beside each other in a row or in a column.
func (r *room) areNeighbours(a, b int) bool {
	wide := r.rite.Wide
	columns, rows := a%wide-b%wide, a/wide-b/wide
	return columns*columns+rows*rows == 1
}

// scene is where everybody and everything is in a room. It is an array of each, so that it is copied, and compared, as a value.
type scene struct {
	room   *room
	people [api.MaxPeople]int    // their cells; none for those who do not exist, so that they are in nobody's way
	hands  [api.MaxPeople][2]int // the things in them, or none
	things [api.MaxTools]api.Spot
}

// firstScene returns the scene in which a valid rite begins.
func firstScene(r api.Rite) scene {
	s := scene{room: &room{r, crafts()}}
	for i := range s.people {
		s.people[i] = none
		s.hands[i] = [2]int{none, none}
	}
	for i, p := range r.People {
		s.people[i] = p.Cell
	}
	for i, t := range r.Things {
		s.things[i] = api.Spot{Cell: t.Cell, State: t.State}
	}
	return s
}

// told returns the scene for those who asked for it.
func (s *scene) told() api.Scene {
	people, things := len(s.room.rite.People), len(s.room.rite.Things)
	return api.Scene{
		People: slices.Clone(s.people[:people]),
		Hands:  slices.Clone(s.hands[:people]),
		Things: slices.Clone(s.things[:things]),
	}
}

// isInOrder tells whether all hands are empty, and each thing is in its place, in its state.
func (s *scene) isInOrder() bool {
	for _, hands := range s.hands {
		if hands != [2]int{none, none} {
			return false
		}
	}
	for i, t := range s.room.rite.Things {
		if s.things[i] != (api.Spot{Cell: t.Home, State: t.Want}) {
			return false
		}
	}
	return true
}
