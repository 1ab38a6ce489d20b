package control

import (
	"iter"
	"slices"
	"sort"

	"nacelle/api"
	"nacelle/check"
)

// Row is a common pitch, and the greatest speed that is safe with it.
type Row struct {
	Pitch int
	Speed int
}

// moved returns where a blade is behind a step towards an angle.
func (m Machine) moved(from, to int) int { return min(max(to, from-m.Rate), from+m.Rate) }

// turned returns a state behind all blades but the stuck one have moved towards an angle.
func (m Machine) turned(s State, angle, stuck int) State {
	for blade := range Blades {
		if blade != stuck {
			s.Pitch[blade] = m.moved(s.Pitch[blade], angle)
		}
	}
	return s.noting(stuck)
}

// noting returns a state that knows which blade was stuck last.
func (s State) noting(stuck int) State {
	if stuck != None {
		s.Stuck = stuck
	}
	return s
}

// spun returns a state behind a step of time in a wind.
func (s State) spun(wind int) State {
	s.Speed += wind - s.Torque
	for blade := range Blades {
		s.Speed -= s.Pitch[blade]
	}
	s.Speed = max(s.Speed, 0)
	return s
}

// stopped returns a state in the mode in which a rotor is stopped.
func (s State) stopped() State {
	s.Mode, s.Torque = stopping, 0
	return s
}

// braked returns the state behind a step of a stop.
func (m Machine) braked(s State, wind, stuck int) State {
	return m.turned(s.stopped(), m.Feather, stuck).spun(wind)
}

// over reports whether a stop is over in a state: the rotor stands still, and no blade would move any more.
func (m Machine) over(s State, stuck int) bool {
	return s.Speed == 0 && m.turned(s, m.Feather, stuck).Pitch == s.Pitch
}

// stop visits the states of a stop. It ends, as two blades at Feather are stronger than any wind.
func (m Machine) stop(s State, stuck int) iter.Seq[State] {
	return func(yield func(State) bool) {
		at := s.stopped().noting(stuck)
		for yield(at) && !m.over(at, stuck) {
			at = m.braked(at, m.Wind, stuck)
		}
	}
}

// peak returns the peak of a stop, and how many steps it takes.
func (m Machine) peak(s State, stuck int) (int, int) {
	peak, steps := 0, -1 // the first state is behind no step
	for at := range m.stop(s, stuck) {
		peak = max(peak, at.Speed)
		steps++
	}
	return peak, steps
}

// keeps reports whether the peak of a stop is at most Limit.
func (m Machine) keeps(s State, stuck int) bool {
	for at := range m.stop(s, stuck) {
		if at.Speed > m.Limit {
			return false
		}
	}
	return true
}

// safe reports whether a state is safe.
func (m Machine) safe(s State) bool {
	if s.Stuck != None {
		return m.keeps(s, s.Stuck)
	}
	for blade := range Blades {
		if !m.keeps(s, blade) {
			return false
		}
	}
	return true
}

// checkStop returns the error of a stop's state and blade, or OK.
func checkStop(m Machine, s State, stuck int) api.Errno {
	return check.First(CheckState(m, s), checkBlade(stuck))
}

// Braked returns the state behind a step of a stop.
func Braked(m Machine, s State, wind, stuck int) (State, api.Errno) {
	if e := check.First(CheckState(m, s), m.checkWind(wind), checkBlade(stuck)); e != api.OK {
		return State{}, e
	}
	out := m.braked(s, wind, stuck)
	if out.Speed > m.Limit {
		return State{}, api.ErrLarge
	}
	return out, api.OK
}

// Stop returns the states of a stop in the strongest wind.
func Stop(m Machine, s State, stuck int) ([]State, api.Errno) {
	if e := checkStop(m, s, stuck); e != api.OK {
		return nil, e
	}
	if !m.keeps(s, stuck) {
		return nil, api.ErrLarge
	}
	return slices.Collect(m.stop(s, stuck)), api.OK
}

// CheckStop returns OK for the states of a stop that keeps the limit.
func CheckStop(m Machine, s State, stuck int, l []State) api.Errno {
	if e := check.First(checkStop(m, s, stuck), check.Many(len(l), MaxTicks)); e != api.OK {
		return e
	}
	return check.That(m.keeps(s, stuck) && m.isStop(s, stuck, l), api.ErrProof)
}

// isStop reports whether a list is the states of a stop.
func (m Machine) isStop(s State, stuck int, l []State) bool {
	for at := range m.stop(s, stuck) {
		if len(l) == 0 || l[0] != at {
			return false
		}
		l = l[1:]
	}
	return len(l) == 0
}

// Peak returns the greatest speed of a stop, and how many steps it takes.
func Peak(m Machine, s State, stuck int) (int, int, api.Errno) {
	if e := checkStop(m, s, stuck); e != api.OK {
		return 0, 0, e
	}
	peak, steps := m.peak(s, stuck)
	return peak, steps, api.OK
}

// Safe reports whether a rotor can be stopped within the limit, whichever blade is stuck.
func Safe(m Machine, s State) (bool, api.Errno) {
	if e := CheckState(m, s); e != api.OK {
		return false, e
	}
	return m.safe(s), api.OK
}

// Table returns the greatest safe speeds for all common pitches.
func Table(m Machine) ([]Row, api.Errno) {
	if e := CheckMachine(m); e != api.OK {
		return nil, e
	}
	var out []Row
	for angle := range m.Feather + 1 {
		if speed := m.safest(angle); speed >= 0 {
			out = append(out, Row{Pitch: angle, Speed: speed})
		}
	}
	return out, api.OK
}

// safest returns the greatest speed that is safe with all pitches at an angle, or -1.
func (m Machine) safest(angle int) int {
	s := State{Mode: running, Pitch: even(angle), Stuck: None}
	least := sort.Search(m.Limit+1, func(speed int) bool { // a safe state is safe with less speed
		s.Speed = speed
		return !m.safe(s)
	})
	return least - 1
}
