package house

import (
	"strconv"
	"strings"

	"aloeswood/api"
	"aloeswood/span"
)

// work is a house at work: lines change its hall.
type work struct {
	api.Hall
	house api.House
}

// begun returns a house at work before its first line. Its hall shares no memory with the given house.
func begun(h api.House) work {
	w := work{house: h}
	for _, m := range h.Members {
		m.Name = strings.Clone(m.Name)
		w.Members = append(w.Members, m)
	}
	return w
}

// replayed returns a house after all lines of a sheet, and the replies to them; or the first error of the house, and of the sheet.
func replayed(h api.House, sheet string) (w work, replies string, e api.Errno) {
	if e := Check(h); e != api.OK {
		return work{}, "", e
	}
	if e := checkSheet(sheet); e != api.OK {
		return work{}, "", e
	}
	w = begun(h)
	var text strings.Builder
	for sheet != "" {
		line, behind, _ := strings.Cut(sheet, lineEnd)
		text.WriteString(row(w.reply(line)...))
		sheet = behind
	}
	return w, text.String(), api.OK
}

// reply does a line, and returns the words of its reply.
func (w *work) reply(line string) []string {
	words, e := w.do(line)
	if e != api.OK {
		return []string{"error", strconv.Itoa(int(e))}
	}
	return words
}

// do does a line, and returns the words of its reply; or its first error, and then nothing is changed.
func (w *work) do(line string) ([]string, api.Errno) {
	words := wordsOf(line)
	if len(words) == 0 {
		return nil, api.ErrForm
	}
	k, exists := kinds()[words[0]]
	if !exists {
		return nil, api.ErrForm
	}
	s, fits := heldAgainst(k.form, words[1:])
	if !fits {
		return nil, api.ErrForm
	}
	return k.do(w, s)
}

// done is the reply to a line that changes something, and has nothing to tell.
func done() ([]string, api.Errno) { return []string{"ok"}, api.OK }

func (w *work) day(s said) ([]string, api.Errno) {
	if w.isGathered() {
		return nil, api.ErrState
	}
	day := s.numbers[0]
	if !span.Within(day, w.Day, api.MaxDay) {
		return nil, api.ErrRange
	}
	w.Day = day
	return done()
}
