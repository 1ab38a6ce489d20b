package work

import (
	"slices"

	"nacelle/api"
	"nacelle/check"
	"nacelle/list"
)

// Replay returns the lock behind a history, or the number of the first act that is wrong.
func Replay(l []Act) (Lock, int, api.Errno) {
	if e := check.Many(len(l), MaxActs); e != api.OK {
		return Lock{}, 0, e
	}
	at := Begin()
	for i, a := range l {
		next, e := Next(at, a)
		if e != api.OK {
			return Lock{}, i + 1, e
		}
		at = next
	}
	return at, 0, api.OK
}

// each returns an act of a kind for each name.
func each(word string, names []string) []Act {
	return list.Changed(names, func(name string) Act { return Act{Kind: word, Name: name} })
}

// release returns the acts that make a turbine run that does not.
func (l Lock) release() []Act {
	out := slices.Concat(each(leave, l.Inside), each(giveBack, l.Keys))
	if l.Dead {
		out = append(out, Act{Kind: energize})
	}
	if l.Yaw {
		out = append(out, Act{Kind: free})
	}
	if l.Rotor {
		out = append(out, Act{Kind: unlock})
	}
	return append(out, Act{Kind: start})
}

// Release returns the acts that make a turbine run.
func Release(l Lock) ([]Act, api.Errno) {
	if e := CheckLock(l); e != api.OK || l.Running {
		return nil, e
	}
	return l.release(), api.OK
}
