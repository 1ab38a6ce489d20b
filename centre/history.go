package centre

import (
	"nacelle/api"
	"nacelle/check"
	"nacelle/list"
)

// step is the kind of an event that counts, and the register behind it.
type step struct {
	kind     string
	register Register
}

// history is events, and the steps of those that count: an undo goes back to the register of the one before.
type history struct {
	events []api.Event
	steps  []step
}

// register returns the register behind all events.
func (h history) register() Register {
	if len(h.steps) == 0 {
		return Register{}
	}
	return h.steps[len(h.steps)-1].register
}

// undone returns the steps without the last one.
func (h history) undone(_ api.Event) ([]step, api.Errno) {
	last := len(h.steps) - 1
	switch {
	case last < 0:
		return nil, api.ErrEmpty
	case h.steps[last].kind == settle:
		return nil, api.ErrRule
	}
	return h.steps[:last], api.OK
}

// checkRoom returns ErrMany if no further event has a number.
func (h history) checkRoom() api.Errno { return check.Many(len(h.events)+1, api.MaxEvents) }

// next returns the number of the next event.
func (h history) next() int { return len(h.events) + 1 }

// add adds an event, or returns the first error of it, or that with which it is not accepted.
func (h *history) add(event api.Event) api.Errno {
	if e := check.First(CheckEvent(event), h.checkRoom(), check.Order(event.Number == h.next())); e != api.OK {
		return e
	}
	steps, e := kinds()[event.Kind].steps(*h, event)
	if e != api.OK {
		return e
	}
	h.events, h.steps = append(h.events, event), steps
	return api.OK
}

// replayed returns the history of events, or the number of the first one that is wrong.
func replayed(l []api.Event) (history, int, api.Errno) {
	if e := check.Many(len(l), api.MaxEvents); e != api.OK {
		return history{}, 0, e
	}
	var h history
	for i, event := range l {
		if e := h.add(event); e != api.OK {
			return history{}, i + 1, e
		}
	}
	return h, 0, api.OK
}

// Replay returns the register after some events.
func Replay(l []api.Event) (Register, int, api.Errno) {
	h, number, e := replayed(l)
	return h.register(), number, e
}

// Accepts returns the error with which an event is not accepted after others, or OK.
func Accepts(l []api.Event, e api.Event) api.Errno {
	h, _, wrong := replayed(l)
	if wrong != api.OK {
		return wrong
	}
	return h.add(e)
}

// AsOf returns the register of the events up to a day.
func AsOf(l []api.Event, day int) (Register, api.Errno) {
	h, _, e := replayed(l)
	if e = check.First(e, check.Range(day, 0, api.MaxNumber)); e != api.OK {
		return Register{}, e
	}
	// No event that counts has a day before that of the one before it, so that those that are kept are the first ones.
	h.steps = list.Kept(h.steps, func(s step) bool { return s.register.Day <= day })
	return h.register(), api.OK
}
