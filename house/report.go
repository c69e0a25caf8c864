package house

import (
	"strconv"
	"strings"

	"aloeswood/api"
)

// report returns the rows of the hall, member by member, record by record.
func (w *work) report() string {
	var text strings.Builder
	text.WriteString(row("day", strconv.Itoa(w.Day)))
	for _, m := range w.Members {
		text.WriteString(row(append([]string{"member", m.Name, w.teacherOf(m), strconv.Itoa(m.Grade)}, w.held(m)...)...))
	}
	for _, r := range w.Records {
		text.WriteString(row(append([]string{"game", strconv.Itoa(r.Day)}, w.results(r)...)...))
	}
	text.WriteString(row("end"))
	return text.String()
}

// teacherOf returns the name of the teacher of a member, or what stands for none.
func (w *work) teacherOf(m api.Member) string {
	if m.Teacher == none {
		return noneWord
	}
	return w.Members[m.Teacher].Name
}

// held returns the names of the variants that a member holds.
func (w *work) held(m api.Member) []string {
	var names []string
	for variant, v := range w.house.Variants {
		if holds(m, variant) {
			names = append(names, v.Name)
		}
	}
	return names
}
