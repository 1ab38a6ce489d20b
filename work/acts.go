package work

import (
	"slices"

	"nacelle/api"
	"nacelle/check"
	"nacelle/list"
)

// The kinds of acts.
const (
	energize = "energize"
	enter    = "enter"
	fix      = "fix"
	free     = "free"
	isolate  = "isolate"
	issue    = "issue"
	leave    = "leave"
	lock     = "lock"
	prove    = "prove"
	giveBack = "return"
	start    = "start"
	stop     = "stop"
	unlock   = "unlock"
)

// kind is a kind of acts, and whether they have a name.
type kind struct {
	word    string
	isNamed bool
}

// kinds are all kinds of acts, in their order.
var kinds = [...]kind{
	{energize, false}, {enter, true}, {fix, false}, {free, false}, {isolate, false}, {issue, true}, {leave, true},
	{lock, false}, {prove, false}, {giveBack, true}, {start, false}, {stop, false}, {unlock, false},
}

// Kinds returns the kinds of acts, in order.
func Kinds() []string {
	var out []string
	for _, k := range kinds {
		out = append(out, k.word)
	}
	return out
}

// Act is what is done with a turbine, and by whom.
type Act struct {
	Kind string
	Name string
}

// act returns an act of a kind, with a name if it has one.
func (k kind) act(name string) Act {
	if k.isNamed {
		return Act{Kind: k.word, Name: name}
	}
	return Act{Kind: k.word}
}

// check returns the error of the name of an act of a kind, or OK.
func (k kind) check(name string) api.Errno {
	if k.isNamed {
		return checkName(name)
	}
	return check.That(name == "", api.ErrName)
}

// CheckAct returns the error of an act, or OK.
func CheckAct(a Act) api.Errno {
	for _, k := range kinds {
		if k.word == a.Kind {
			return k.check(a.Name)
		}
	}
	return api.ErrKind
}

// with returns a new list of names in their order, with one more.
func with(names []string, name string) []string {
	at, _ := slices.BinarySearch(names, name)
	return slices.Concat(names[:at], []string{name}, names[at:])
}

// without returns a new list of names, without one.
func without(names []string, name string) []string {
	return list.Kept(names, func(other string) bool { return other != name })
}

// copied returns a copy of a lock, whose names may be changed.
func (l Lock) copied() Lock {
	l.Keys, l.Inside = slices.Clone(l.Keys), slices.Clone(l.Inside)
	return l
}

// behind returns the lock behind an act that no rule forbids.
func (l Lock) behind(a Act) Lock {
	out := l.copied()
	switch a.Kind {
	case start, stop:
		out.Running = a.Kind == start
	case lock, unlock:
		out.Rotor = a.Kind == lock
	case fix, free:
		out.Yaw = a.Kind == fix
	case isolate, energize:
		out.Dead, out.Proven = a.Kind == isolate, false
	case prove:
		out.Proven = true
	case issue:
		out.Keys = with(out.Keys, a.Name)
	case giveBack:
		out.Keys = without(out.Keys, a.Name)
	case enter:
		out.Inside = with(out.Inside, a.Name)
	case leave:
		out.Inside = without(out.Inside, a.Name)
	}
	return out
}
