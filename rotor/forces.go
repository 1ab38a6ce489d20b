package rotor

import (
	"iter"
	"slices"

	"nacelle/api"
	"nacelle/check"
	"nacelle/list"
)

// maxLimit is the greatest absolute value of a limit of the torque.
const maxLimit = 1 << 60

// torque returns the torque for an inflow.
func (s section) torque(inflow int) int {
	c := s.class(inflow)
	return s.ring.Radius * s.ring.Chord * s.ring.Tip * (inflow*s.polar.Lift[c] - Scale*s.polar.Drag[c])
}

// thrusts returns the least and the greatest thrust at a bracket.
func (s section) thrusts(at Induction) [2]int { return [2]int{s.thrust(at), s.thrust(at.next())} }

// torques returns the least and the greatest torque at a bracket.
func (s section) torques(at Induction) [2]int {
	from, to := s.inflow(at.next()), s.inflow(at)
	inflows := []int{from, to}
	// The torque never falls while the class stays the same, so that only the ends of classes matter beside these two.
	// All inflows that are the end of a class lie between that of the first class and that of the last one.
	first, last := s.ring.Twist, s.ring.Twist+len(s.polar.Lift)-1
	for inflow := max(from, first); inflow <= min(to, last); inflow++ {
		inflows = append(inflows, inflow)
	}
	torques := list.Changed(inflows, s.torque)
	return [2]int{slices.Min(torques), slices.Max(torques)}
}

// intervals returns the interval that a function finds at the bracket of each ring.
func intervals(b Blade, f Flow, depth int, find func(section, Induction) [2]int) ([][2]int, api.Errno) {
	if e := check.First(CheckBlade(b), CheckFlow(f), checkDepth(depth)); e != api.OK {
		return nil, e
	}
	var out [][2]int
	for _, s := range sections(b, f) {
		at, ok := s.bracket(depth)
		if !ok {
			return nil, api.ErrNone
		}
		out = append(out, find(s, at))
	}
	return out, api.OK
}

// added returns the sum of intervals.
func added(l [][2]int) [2]int {
	var out [2]int
	for _, x := range l {
		out[0] += x[0]
		out[1] += x[1]
	}
	return out
}

// Thrust returns the least and the greatest thrust of a blade.
func Thrust(b Blade, f Flow, depth int) ([2]int, api.Errno) {
	l, e := intervals(b, f, depth, section.thrusts)
	return added(l), e
}

// Torque returns the least and the greatest torque of a blade.
func Torque(b Blade, f Flow, depth int) ([2]int, api.Errno) {
	l, e := Rings(b, f, depth)
	return added(l), e
}

// Rings returns the least and the greatest torque of each ring.
func Rings(b Blade, f Flow, depth int) ([][2]int, api.Errno) {
	return intervals(b, f, depth, section.torques)
}

// pitches visits the pitches from one to another one at which all rings have brackets, with the torques there.
func pitches(b Blade, f Flow, depth, from, to int) iter.Seq2[int, [2]int] {
	return func(yield func(int, [2]int) bool) {
	search:
		for pitch := from; pitch <= to; pitch++ {
			switch torques, e := Torque(b, Flow{Wind: f.Wind, Spin: f.Spin, Pitch: pitch}, depth); {
			case e != api.OK: // a ring has no bracket
			case !yield(pitch, torques):
				break search
			}
		}
	}
}

// checkSearch returns the first error of the arguments of a search for a pitch, or OK.
func checkSearch(b Blade, f Flow, depth, from, to int) api.Errno {
	e := check.First(CheckBlade(b), CheckFlow(f), checkDepth(depth), checkAngle(from), checkAngle(to))
	if e == api.OK && to < from {
		return api.ErrOrder
	}
	return e
}

// Best returns the pitch with the greatest least torque.
func Best(b Blade, f Flow, depth, from, to int) (int, [2]int, api.Errno) {
	if e := checkSearch(b, f, depth, from, to); e != api.OK {
		return 0, [2]int{}, e
	}
	best, most, e := 0, [2]int{}, api.ErrNone
	for pitch, torques := range pitches(b, f, depth, from, to) {
		if e == api.ErrNone || torques[0] > most[0] {
			best, most, e = pitch, torques, api.OK
		}
	}
	return best, most, e
}

// Limit returns the least pitch whose torque is at most a limit.
func Limit(b Blade, f Flow, depth, from, to, most int) (int, api.Errno) {
	if e := check.First(checkSearch(b, f, depth, from, to), check.Range(most, -maxLimit, maxLimit)); e != api.OK {
		return 0, e
	}
	for pitch, torques := range pitches(b, f, depth, from, to) {
		if torques[1] <= most {
			return pitch, api.OK
		}
	}
	return 0, api.ErrNone
}
