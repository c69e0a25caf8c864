package house

import (
	"iter"
	"slices"
	"strings"

	"aloeswood/api"
)

// none is the number of nobody, and of nothing: also the teacher of a head, and the number for a packet for which nothing is written.
const none = -1

// memberNamed returns the number of the member that has a name, or none.
func memberNamed(members []api.Member, word string) int {
	return slices.IndexFunc(members, func(m api.Member) bool { return m.Name == word })
}

// variantNamed returns the number of the variant that has a name, or none.
func variantNamed(variants []api.Variant, word string) int {
	return slices.IndexFunc(variants, func(v api.Variant) bool { return v.Name == word })
}

// member returns the number of the member that a word names.
func (w *work) member(word string) (int, api.Errno) { return found(memberNamed(w.Members, word)) }

// variant returns the number of the variant that a word names.
func (w *work) variant(word string) (int, api.Errno) {
	return found(variantNamed(w.house.Variants, word))
}

// found returns the number of what was looked for, unless there is none.
func found(number int) (int, api.Errno) {
	if number == none {
		return 0, api.ErrMissing
	}
	return number, api.OK
}

// holds tells whether a member holds a variant.
func holds(m api.Member, variant int) bool { return m.Holds>>variant&1 == 1 }

// isShown tells whether one of some members is a pupil of this teacher, and holds a variant.
func isShown(members []api.Member, teacher, variant int) bool {
	return slices.ContainsFunc(members, func(m api.Member) bool { return m.Teacher == teacher && holds(m, variant) })
}

// pupil returns the member that a word names, and its teacher.
func (w *work) pupil(word string) (pupil, teacher *api.Member, e api.Errno) {
	number, e := w.member(word)
	if e != api.OK {
		return nil, nil, e
	}
	pupil = &w.Members[number]
	if pupil.Teacher == none {
		return nil, nil, api.ErrState
	}
	return pupil, &w.Members[pupil.Teacher], api.OK
}

func (w *work) join(s said) ([]string, api.Errno) {
	word := s.words[0]
	teacher, e := w.member(s.words[1])
	if e != api.OK {
		return nil, e
	}
	if e := checkName(word, memberNamed(w.Members, word)); e != api.OK {
		return nil, e
	}
	if w.Members[teacher].Grade < api.TeachGrade {
		return nil, api.ErrShort
	}
	if len(w.Members) == api.MaxMembers {
		return nil, api.ErrFull
	}
	// The hall shall keep no part of the sheet.
	w.Members = append(w.Members, api.Member{Name: strings.Clone(word), Teacher: teacher})
	return done()
}

func (w *work) raise(s said) ([]string, api.Errno) {
	pupil, teacher, e := w.pupil(s.words[0])
	if e != api.OK {
		return nil, e
	}
	if pupil.Grade >= teacher.Grade {
		return nil, api.ErrClash
	}
	pupil.Grade++
	return done()
}

func (w *work) show(s said) ([]string, api.Errno) {
	variant, e := w.variant(s.words[1])
	if e != api.OK {
		return nil, e
	}
	pupil, teacher, e := w.pupil(s.words[0])
	if e != api.OK {
		return nil, e
	}
	v := w.house.Variants[variant]
	switch {
	case !holds(*teacher, variant):
		return nil, api.ErrClash
	case pupil.Grade < v.Grade:
		return nil, api.ErrShort
	case holds(*pupil, variant):
		return nil, api.ErrExists
	case v.Secret && isShown(w.Members, pupil.Teacher, variant):
		return nil, api.ErrFull
	}
	pupil.Holds |= 1 << variant
	return done()
}

func (w *work) split(s said) ([]string, api.Errno) {
	pupil, _, e := w.pupil(s.words[0])
	if e != api.OK {
		return nil, e
	}
	if pupil.Grade < api.SplitGrade {
		return nil, api.ErrShort
	}
	pupil.Teacher = none
	return done()
}

// lineage hands out the numbers of a member, its teacher, and so on, up to its head.
func (w *work) lineage(number int) iter.Seq[int] {
	return func(yield func(int) bool) {
		for now := number; now != none; now = w.Members[now].Teacher {
			if !yield(now) {
				return
			}
		}
	}
}

// head returns the number of the head of a member.
func (w *work) head(number int) int {
	head := number
	for teacher := range w.lineage(number) {
		head = teacher
	}
	return head
}

// names returns the names of some members.
func (w *work) names(numbers []int) []string {
	var l []string
	for _, number := range numbers {
		l = append(l, w.Members[number].Name)
	}
	return l
}

func (w *work) line(s said) ([]string, api.Errno) {
	number, e := w.member(s.words[0])
	if e != api.OK {
		return nil, e
	}
	return w.names(slices.Collect(w.lineage(number))), api.OK
}

func (w *work) hold(s said) ([]string, api.Errno) {
	variant, e := w.variant(s.words[0])
	if e != api.OK {
		return nil, e
	}
	var holders []string
	for _, m := range w.Members {
		if holds(m, variant) {
			holders = append(holders, m.Name)
		}
	}
	if len(holders) == 0 {
		return []string{"none"}, api.OK
	}
	return holders, api.OK
}
