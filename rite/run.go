package rite

import (
	"iter"

	"aloeswood/api"
)

// minutes hands out acts minute by minute, each time with the number of the first one.
func minutes(acts []api.Act) iter.Seq2[int, []api.Act] {
	return func(yield func(int, []api.Act) bool) {
		for first, end := 0, 0; first < len(acts); first = end {
			for end < len(acts) && acts[end].At == acts[first].At {
				end++
			}
			if !yield(first, acts[first:end]) {
				return
			}
		}
	}
}

// pass does all acts of a minute. If they cannot be done together, it does none of them, and returns the place of the first one that is in the way, and why.
func (s *scene) pass(acts []api.Act) (place int, e api.Errno) {
	touched := map[part]bool{}
	for i, a := range acts {
		if !s.isPossible(a) {
			return i, api.ErrState
		}
		for _, p := range s.touches(a) {
			if touched[p] {
				return i, api.ErrClash
			}
			touched[p] = true
		}
	}
	for _, a := range acts {
		s.do(a)
	}
	return 0, api.OK
}

// passAll does all acts, minute by minute. It stops before the minute in which they cannot be done together, and returns the number of the first one that is in the way, and why.
func (s *scene) passAll(acts []api.Act) (at int, e api.Errno) {
	for first, l := range minutes(acts) {
		if place, e := s.pass(l); e != api.OK {
			return first + place, e
		}
	}
	return len(acts), api.OK
}

// Run returns the last scene of a rite and -1, or the number of the act at which it stops.
func Run(r api.Rite) (end api.Scene, at int, e api.Errno) {
	if e := Check(r); e != api.OK {
		return api.Scene{}, 0, e
	}
	s := firstScene(r)
	at, e = s.passAll(r.Acts)
	if e == api.OK && !s.isInOrder() {
		e = api.ErrOrder
	}
	if e != api.OK {
		return api.Scene{}, at, e
	}
	return s.told(), -1, api.OK
}

// Scenes returns the first scene of a rite, and the one after each minute in which there is an act.
func Scenes(r api.Rite) ([]api.Scene, api.Errno) {
	if _, _, e := Run(r); e != api.OK {
		return nil, e
	}
	s := firstScene(r)
	scenes := []api.Scene{s.told()}
	for _, acts := range minutes(r.Acts) {
		s.pass(acts)
		scenes = append(scenes, s.told())
	}
	return scenes, api.OK
}
