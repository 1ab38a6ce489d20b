package work

import (
	"slices"

	"nacelle/api"
	"nacelle/check"
)

// Lock is the state of a turbine, those who hold a key of it, and those who are inside.
type Lock struct {
	Running bool
	Rotor   bool
	Yaw     bool
	Dead    bool
	Proven  bool
	Keys    []string
	Inside  []string
}

// Begin returns the lock of a turbine that runs.
func Begin() Lock { return Lock{Running: true} }

// conditions are whether a turbine runs, its rotor is locked, its yaw fixed, and its voltage away, and proven to be so.
type conditions [5]bool

// The conditions of a turbine that runs, of one that may start, and of one for which there are keys.
var (
	running  = conditions{true, false, false, false, false}
	standing = conditions{false, false, false, false, false}
	secured  = conditions{false, true, true, true, true}
)

// conditions returns the conditions of a lock.
func (l Lock) conditions() conditions {
	return conditions{l.Running, l.Rotor, l.Yaw, l.Dead, l.Proven}
}

// isOut reports whether a key is out.
func (l Lock) isOut() bool { return len(l.Keys) > 0 }

// holds reports whether somebody holds a key.
func (l Lock) holds(name string) bool { return slices.Contains(l.Keys, name) }

// has reports whether somebody is inside.
func (l Lock) has(name string) bool { return slices.Contains(l.Inside, name) }

// isPossible reports whether a lock is possible.
func (l Lock) isPossible() bool {
	is := l.conditions()
	isOutside := func(name string) bool { return !l.holds(name) }
	return (l.Dead || !l.Proven) && (!l.Running || is == running) && (!l.isOut() || is == secured) && !slices.ContainsFunc(l.Inside, isOutside)
}

// checkPeople returns the first error of those who hold a key, or are inside, or OK.
func checkPeople(names []string) api.Errno {
	return check.First(check.Many(len(names), MaxKeys), check.Row(names, "", func(before, name string) api.Errno {
		return check.First(checkName(name), check.Order(before < name))
	}))
}

// CheckLock returns the first error of a lock, or OK.
func CheckLock(l Lock) api.Errno {
	return check.First(checkPeople(l.Keys), checkPeople(l.Inside), check.That(l.isPossible(), api.ErrState))
}
