package score

import (
	"slices"

	"aloeswood/api"
)

// CheckTable returns the first error of a table.
func CheckTable(t api.Table) api.Errno {
	if t.Packets < 1 || t.Packets > api.MaxPackets || t.Passed < 0 || t.Passed > t.Packets {
		return api.ErrRange
	}
	if t.State < api.TableOpen || t.State > api.TableShown {
		return api.ErrKind
	}
	if len(t.Answers) == 0 {
		return api.ErrShort
	}
	if len(t.Answers) > api.MaxGuests {
		return api.ErrFull
	}
	for _, answer := range t.Answers {
		if e := checkAnswer(answer, t.Packets); e != api.OK {
			return e
		}
		if slices.ContainsFunc(answer[t.Passed:], isWritten) {
			return api.ErrLate
		}
	}
	if (t.State == api.TableClosed || t.State == api.TableShown) && t.Passed < t.Packets {
		return api.ErrState
	}
	return api.OK
}

// work is a table at work: deeds change it.
type work struct{ api.Table }

// begun returns a table at work that shares no memory with the given one.
func begun(t api.Table) *work {
	w := &work{t}
	w.Answers = make([][]int, len(t.Answers))
	for guest, answer := range t.Answers {
		w.Answers[guest] = slices.Clone(answer)
	}
	return w
}

// deeds returns what does a deed at this table, or returns its error, by the kinds of deeds.
func (w *work) deeds() map[int]func(api.Deed) api.Errno {
	return map[int]func(api.Deed) api.Errno{
		api.DeedPass:   w.pass,
		api.DeedWrite:  w.write,
		api.DeedPause:  w.pause,
		api.DeedResume: w.resume,
		api.DeedClose:  w.close,
		api.DeedOpen:   w.open,
	}
}

// do does a deed; if that has an error, nothing is changed.
func (w *work) do(d api.Deed) api.Errno {
	deed, exists := w.deeds()[d.Kind]
	if !exists {
		return api.ErrKind
	}
	return deed(d)
}

func (w *work) pass(api.Deed) api.Errno {
	if w.State != api.TableOpen {
		return api.ErrState
	}
	if w.Passed == w.Packets {
		return api.ErrFull
	}
	w.Passed++
	return api.OK
}

func (w *work) write(d api.Deed) api.Errno {
	if w.State != api.TableOpen {
		return api.ErrState
	}
	if d.Guest < 0 || d.Guest >= len(w.Answers) || d.Packet < 0 || d.Packet >= w.Packets {
		return api.ErrMissing
	}
	if d.Packet >= w.Passed {
		return api.ErrLate
	}
	if !isNumber(d.Number) {
		return api.ErrRange
	}
	w.Answers[d.Guest][d.Packet] = d.Number
	return api.OK
}

func (w *work) pause(api.Deed) api.Errno { return w.turn(api.TableOpen, api.TablePaused) }

func (w *work) resume(api.Deed) api.Errno { return w.turn(api.TablePaused, api.TableOpen) }

func (w *work) close(api.Deed) api.Errno {
	if w.State == api.TableOpen && w.Passed < w.Packets {
		return api.ErrShort
	}
	return w.turn(api.TableOpen, api.TableClosed)
}

func (w *work) open(api.Deed) api.Errno { return w.turn(api.TableClosed, api.TableShown) }

// turn takes the table from one state into another one.
func (w *work) turn(from, to int) api.Errno {
	if w.State != from {
		return api.ErrState
	}
	w.State = to
	return api.OK
}

// Do returns the table after a deed.
func Do(t api.Table, d api.Deed) (api.Table, api.Errno) {
	if e := CheckTable(t); e != api.OK {
		return api.Table{}, e
	}
	w := begun(t)
	if e := w.do(d); e != api.OK {
		return api.Table{}, e
	}
	return w.Table, api.OK
}

// Run returns the table after all deeds, and what each of them returns.
func Run(t api.Table, deeds []api.Deed) (api.Table, []api.Errno, api.Errno) {
	if e := CheckTable(t); e != api.OK {
		return api.Table{}, nil, e
	}
	if len(deeds) > api.MaxDeeds {
		return api.Table{}, nil, api.ErrFull
	}
	w := begun(t)
	var returned []api.Errno
	gather := func(e api.Errno) { returned = append(returned, e) }
	for _, d := range deeds {
		gather(w.do(d))
	}
	return w.Table, returned, api.OK
}
