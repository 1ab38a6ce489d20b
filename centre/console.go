package centre

import (
	"slices"
	"strconv"
	"strings"

	"nacelle/api"
	"nacelle/check"
	"nacelle/list"
	"nacelle/text"
)

// nothing is the word for an empty result.
const nothing = "none"

// Session is a console.
type Session struct {
	history
}

// New returns a session without events.
func New() *Session { return &Session{} }

// Open returns the session with a log. What a crash has torn off at its end is no error.
func Open(log string) (*Session, api.Errno) {
	events, _, e := Recover(log)
	if e != api.OK && e != api.ErrTorn {
		return nil, e
	}
	h, _, e := replayed(events)
	if e != api.OK {
		return nil, e
	}
	return &Session{h}, api.OK
}

// Do executes a line, and returns its result.
func (s *Session) Do(line string) (string, api.Errno) {
	switch {
	case s == nil:
		return "", api.ErrState
	case len(line) > api.MaxText:
		return "", api.ErrLong
	case line == "":
		return "", api.ErrSyntax
	}
	word, _, _ := strings.Cut(line, " ")
	if _, isKind := kinds()[word]; isKind {
		return s.execute(line)
	}
	if q, isQuestion := questions()[word]; isQuestion {
		return s.answer(q, line)
	}
	return "", api.ErrKind
}

// execute adds the event of a line.
func (s *Session) execute(line string) (string, api.Errno) {
	event, isEvent := readEvent(s.next(), text.Split(line))
	e := check.First(check.That(isEvent, api.ErrSyntax), s.checkRoom())
	if e == api.OK {
		e = s.add(event)
	}
	if e != api.OK {
		return "", e
	}
	return "done " + strconv.Itoa(event.Number), api.OK
}

// answer returns the answer to a question.
func (s *Session) answer(q question, line string) (string, api.Errno) {
	words := text.Split(line)
	take := words.Filled
	names, areNames := take(1 + q.names)
	if !areNames || !words.Done() {
		return "", api.ErrSyntax
	}
	out, e := q.words(s.register(), names[1:])
	switch {
	case e != api.OK:
		return "", e
	case len(out) == 0:
		return nothing, api.OK
	}
	return strings.Join(out, " "), api.OK
}

// copied returns a copy of an event, whose lists may be changed.
func copied(event api.Event) api.Event {
	event.Names, event.Values = slices.Clone(event.Names), slices.Clone(event.Values)
	return event
}

// Events returns the events.
func (s *Session) Events() []api.Event {
	if s == nil {
		return nil
	}
	return list.Changed(s.events, copied)
}

// Log returns the log of the events.
func (s *Session) Log() string {
	if s == nil {
		return ""
	}
	return strings.Join(list.Changed(s.events, record), "")
}
