package control

import (
	"nacelle/api"
	"nacelle/check"
	"nacelle/list"
)

// checkHistory returns the first error of a machine and of the length of a history, or OK.
func checkHistory(m Machine, length int) api.Errno {
	return check.First(CheckMachine(m), check.Many(length, MaxSteps))
}

// replay returns the states behind the acts of a history, or the number of its first act with an error.
func replay(m Machine, l []Act) ([]State, int, api.Errno) {
	if e := checkHistory(m, len(l)); e != api.OK {
		return nil, 0, e
	}
	var out []State
	at := m.first()
	for i, a := range l {
		if e := CheckAct(m, a); e != api.OK {
			return nil, i + 1, e
		}
		next, e := rotor{m, at}.next(a)
		if e != api.OK {
			return nil, i + 1, e
		}
		at = next
		out = append(out, at)
	}
	return out, 0, api.OK
}

// Replay returns the state behind a history, or the number of its first act with an error.
func Replay(m Machine, l []Act) (State, int, api.Errno) {
	states, number, e := replay(m, l)
	if e != api.OK {
		return State{}, number, e
	}
	if len(states) == 0 {
		return m.first(), 0, api.OK
	}
	return states[len(states)-1], 0, api.OK
}

// Speeds returns the speeds of a history.
func Speeds(m Machine, l []Act) ([]int, api.Errno) {
	states, _, e := replay(m, l)
	return list.Changed(states, func(s State) int { return s.Speed }), e
}

// with returns a history with an act behind it. It is a copy: the history before stays.
func with(l []Act, a Act) []Act {
	out := make([]Act, len(l)+1)
	copy(out, l)
	out[len(l)] = a
	return out
}

// Run returns the history that a controller makes in winds.
func Run(m Machine, winds []int) ([]Act, api.Errno) {
	if e := check.First(checkHistory(m, len(winds)), check.Each(winds, m.checkWind)); e != api.OK {
		return nil, e
	}
	var out []Act
	at := rotor{m, m.first()}
	for _, wind := range winds {
		a := at.propose(wind)
		at.state = at.behind(a)
		out = with(out, a)
	}
	return out, api.OK
}

// Energy returns the sum of the products of torques and speeds of a history.
func Energy(m Machine, l []Act) (int, api.Errno) {
	states, _, e := replay(m, l)
	sum := 0
	for i, s := range states {
		if l[i].Kind == tick {
			sum += s.Torque * s.Speed
		}
	}
	return sum, e
}

// Ramps returns the first index at which numbers change by more than a number, or -1.
func Ramps(l []int, most int) (int, api.Errno) {
	if e := check.First(check.Many(len(l), MaxSteps), check.Ranges(l, 0, api.MaxNumber), check.Range(most, 0, api.MaxNumber)); e != api.OK {
		return 0, e
	}
	return list.Jump(l, most), api.OK
}
