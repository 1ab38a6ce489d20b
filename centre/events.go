package centre

import (
	"nacelle/api"
	"nacelle/check"
)

// settle is the kind of an event that is not undone.
const settle = "settle"

// kind is a kind of events: how many names and values one has, and the steps of a history behind it, or the error with which it is not accepted.
type kind struct {
	names  int
	values int
	steps  func(h history, event api.Event) ([]step, api.Errno)
}

// kinds returns the kinds of events by their words.
func kinds() map[string]kind {
	return map[string]kind{
		"turbine":  {1, 2, counted(Register.withTurbine)},
		"telegram": {1, 3, counted(known(Register.withTelegram))},
		"act":      {2, 1, counted(known(Register.withAct))},
		"person":   {3, 1, counted(known(Register.withPerson))},
		"meter":    {1, 5, counted(known(Register.withMeter))},
		settle:     {0, 6, counted(Register.withSettlement)},
		"undo":     {0, 0, history.undone},
	}
}

// effect returns the register behind an event, or the error with which this is not accepted.
type effect func(r Register, event api.Event) (Register, api.Errno)

// counted returns the steps behind an event that counts, by its effect.
func counted(behind effect) func(h history, event api.Event) ([]step, api.Errno) {
	return func(h history, event api.Event) ([]step, api.Errno) {
		before, day := h.register(), event.Values[0]
		if day < before.Day {
			return nil, api.ErrState
		}
		after, e := behind(before, event)
		if e != api.OK {
			return nil, e
		}
		after.Day = day
		return append(h.steps, step{kind: event.Kind, register: after}), api.OK
	}
}

// known returns the effect of an event of a turbine that must be there, by that at its index.
func known(behind func(r Register, at int, event api.Event) (Register, api.Errno)) effect {
	return func(r Register, event api.Event) (Register, api.Errno) {
		at := r.index(event.Names[0])
		if at < 0 {
			return Register{}, api.ErrUnknown
		}
		return behind(r, at, event)
	}
}

// CheckEvent returns the first error of an event by itself, or OK.
func CheckEvent(e api.Event) api.Errno {
	k, isKind := kinds()[e.Kind]
	return check.First(
		check.Range(e.Number, 1, api.MaxEvents),
		check.That(isKind, api.ErrKind),
		check.Shape(len(e.Names), k.names),
		check.Shape(len(e.Values), k.values),
		check.Each(e.Names, checkName),
		check.Ranges(e.Values, 0, api.MaxNumber),
		check.That(e.Text == "", api.ErrForm),
	)
}
