package control

import (
	"slices"

	"nacelle/api"
	"nacelle/check"
)

// The kinds of acts.
const (
	brake  = "brake"
	repair = "repair"
	rest   = "rest"
	start  = "start"
	stop   = "stop"
	tick   = "tick"
)

// Act is what is done with a rotor in a step of time.
type Act struct {
	Kind   string
	Wind   int
	Pitch  int
	Torque int
	Stuck  int
}

// Kinds returns the kinds of acts.
func Kinds() []string { return []string{brake, repair, rest, start, stop, tick} }

// bare returns an act of a kind that has nothing else.
func bare(kind string) Act { return Act{Kind: kind, Stuck: None} }

// shaped returns an act without the numbers that its kind does not have.
func (a Act) shaped() Act {
	out := bare(a.Kind)
	switch a.Kind {
	case tick:
		out = a
	case brake:
		out.Wind, out.Stuck = a.Wind, a.Stuck
	}
	return out
}

// checkNumbers returns the first error of an act with the ranges of a machine, or OK.
func (a Act) checkNumbers(m Machine) api.Errno {
	return check.First(
		check.That(slices.Contains(Kinds(), a.Kind), api.ErrKind),
		m.checkWind(a.Wind), check.Range(a.Pitch, 0, m.Feather), check.Range(a.Torque, 0, m.Torque), checkBlade(a.Stuck),
		check.That(a == a.shaped(), api.ErrShape),
	)
}

// CheckAct returns the first error of a machine and an act, or OK.
func CheckAct(m Machine, a Act) api.Errno { return check.First(CheckMachine(m), a.checkNumbers(m)) }

// rotor is a machine in a state; both were checked.
type rotor struct {
	machine Machine
	state   State
}

// behind returns the state behind an act that was checked, also if a rule forbids it.
func (r rotor) behind(a Act) State {
	m, s := r.machine, r.state
	switch a.Kind {
	case start:
		s.Mode = running
	case tick:
		s.Torque = a.Torque
		s = m.turned(s, a.Pitch, a.Stuck).spun(a.Wind)
	case stop:
		s = s.stopped()
	case brake:
		s = m.braked(s, a.Wind, a.Stuck)
	case rest:
		s.Mode = idle
	case repair:
		s.Pitch, s.Stuck = m.feathered(), None
	}
	return s
}

// rule forbids acts of some kinds.
type rule struct {
	kinds   []string
	forbids func(r rotor, a Act) bool
}

// rules returns the rules by their numbers, from 1 on.
func rules() []rule {
	return []rule{
		{[]string{start, repair}, func(r rotor, _ Act) bool { return r.state.Mode != idle }},
		{[]string{tick, stop}, func(r rotor, _ Act) bool { return r.state.Mode != running }},
		{[]string{brake, rest}, func(r rotor, _ Act) bool { return r.state.Mode != stopping }},
		{[]string{start}, func(r rotor, _ Act) bool {
			return r.state.Pitch != r.machine.feathered() || r.state.Stuck != None
		}},
		{[]string{rest}, func(r rotor, _ Act) bool { return !r.machine.rests(r.state) }},
		{[]string{tick, brake}, func(r rotor, a Act) bool {
			return a.Stuck != None && r.state.Stuck != None && a.Stuck != r.state.Stuck
		}},
		{[]string{tick, brake}, func(r rotor, a Act) bool {
			next := r.behind(a)
			return next.Speed > r.machine.Limit || a.Kind == tick && !r.machine.safe(next)
		}},
	}
}

// rule returns the number of the rule that forbids an act that was checked, or 0.
func (r rotor) rule(a Act) int {
	number := 0
search:
	for i, rule := range rules() {
		for _, kind := range rule.kinds {
			if kind == a.Kind && rule.forbids(r, a) {
				number = i + 1
				break search
			}
		}
	}
	return number
}

// permits reports whether no rule forbids an act that was checked.
func (r rotor) permits(a Act) bool { return r.rule(a) == 0 }

// next returns the state behind an act that was checked, or ErrRule.
func (r rotor) next(a Act) (State, api.Errno) {
	if !r.permits(a) {
		return State{}, api.ErrRule
	}
	return r.behind(a), api.OK
}

// candidates returns the acts of which the first one that no rule forbids is proposed, by the mode of the rotor.
func (r rotor) candidates(wind int) []Act {
	m, s := r.machine, r.state
	switch s.Mode {
	case idle:
		return []Act{bare(start), bare(repair)}
	case stopping:
		return []Act{bare(rest), {Kind: brake, Wind: wind, Stuck: s.Stuck}}
	}
	pitch := min(max(m.Gain*(s.Speed-m.Rated), 0), m.Feather)
	torque := min(m.Torque*s.Speed/m.Rated, m.Torque)
	wanted := Act{Kind: tick, Wind: wind, Pitch: pitch, Torque: torque, Stuck: s.Stuck}
	careful := wanted
	careful.Pitch = m.Feather
	return []Act{wanted, careful, bare(stop)}
}

// propose returns the proposal in a wind. If all candidates are forbidden it is the last one: nothing is better than to brake.
func (r rotor) propose(wind int) Act {
	candidates := r.candidates(wind)
	if i := slices.IndexFunc(candidates, r.permits); i >= 0 {
		return candidates[i]
	}
	return candidates[len(candidates)-1]
}

// Allowed returns the number of the rule that forbids an act, or 0.
func Allowed(m Machine, s State, a Act) (int, api.Errno) {
	if e := check.First(CheckState(m, s), CheckAct(m, a)); e != api.OK {
		return 0, e
	}
	return rotor{m, s}.rule(a), api.OK
}

// Next returns the state behind an act.
func Next(m Machine, s State, a Act) (State, api.Errno) {
	if e := check.First(CheckState(m, s), CheckAct(m, a)); e != api.OK {
		return State{}, e
	}
	return rotor{m, s}.next(a)
}

// Propose returns the act that the controller proposes in a wind.
func Propose(m Machine, s State, wind int) (Act, api.Errno) {
	if e := check.First(CheckState(m, s), m.checkWind(wind)); e != api.OK {
		return Act{}, e
	}
	return rotor{m, s}.propose(wind), api.OK
}
