package rotor

import (
	"iter"
	"slices"

	"nacelle/api"
	"nacelle/check"
)

// Induction is At divided by 2 to the power of Depth.
type Induction struct {
	At    int
	Depth int
}

// parts returns into how many parts the depth of an induction divides 1.
func (i Induction) parts() int { return 1 << i.Depth }

// next returns the next greater induction of the same depth.
func (i Induction) next() Induction { return Induction{At: i.At + 1, Depth: i.Depth} }

// checkDepth returns ErrRange if a depth is not in its range.
func checkDepth(depth int) api.Errno { return check.Range(depth, 1, MaxDepth) }

// checkInduction returns ErrRange if an induction is none.
func checkInduction(at Induction) api.Errno {
	if e := checkDepth(at.Depth); e != api.OK {
		return e
	}
	return check.Range(at.At, 0, at.parts()/2)
}

// section is a ring of a blade in a flow, whose pitch is in the twist of the ring.
type section struct {
	ring  Ring
	polar Polar
	wind  int
	spin  int
}

// pitched returns a copy of a blade whose rings are turned by a pitch: it acts as their twists do.
func pitched(b Blade, pitch int) Blade {
	b.Rings = slices.Clone(b.Rings)
	for i := range b.Rings {
		b.Rings[i].Twist += pitch
	}
	return b
}

// sections visits the rings of a blade in a flow, both of which were checked, with their indices.
func sections(b Blade, f Flow) iter.Seq2[int, section] {
	return func(yield func(int, section) bool) {
		for i, r := range pitched(b, f.Pitch).Rings {
			if !yield(i, section{ring: r, polar: b.Polar, wind: f.Wind, spin: f.Spin}) {
				return
			}
		}
	}
}

// sectionOf returns a ring of a blade in a flow, or the first error of these three.
func sectionOf(b Blade, f Flow, ring int) (section, api.Errno) {
	if e := check.First(CheckBlade(b), CheckFlow(f)); e != api.OK {
		return section{}, e
	}
	for i, s := range sections(b, f) {
		if i == ring {
			return s, api.OK
		}
	}
	return section{}, api.ErrUnknown
}

// sectionAt returns a ring of a blade in a flow, or the first error of these three and of an induction.
func sectionAt(b Blade, f Flow, ring int, at Induction) (section, api.Errno) {
	s, e := sectionOf(b, f, ring)
	return s, check.First(e, checkInduction(at))
}

// inflow returns the inflow at an induction.
func (s section) inflow(at Induction) int {
	return Scale * (at.parts() - at.At) * s.wind / (at.parts() * s.spin * s.ring.Radius)
}

// class returns the class for an inflow.
func (s section) class(inflow int) int {
	return min(max(inflow-s.ring.Twist, 0), len(s.polar.Lift)-1)
}

// thrust returns the thrust at an induction.
func (s section) thrust(at Induction) int {
	return Scale * at.At * (at.parts() - at.At) * s.ring.Radius
}

// balance returns the balance at an induction.
func (s section) balance(at Induction) int {
	lift := s.polar.Lift[s.class(s.inflow(at))]
	return s.thrust(at) - at.parts()*at.parts()*s.ring.Chord*s.ring.Tip*lift
}

// bracket returns the bracket of a depth, or false if there is none.
func (s section) bracket(depth int) (Induction, bool) {
	out := Induction{Depth: 1}
	if s.balance(out.next()) <= 0 {
		return Induction{}, false
	}
	for range depth - 1 {
		out = s.finer(out)
	}
	return out, true
}

// finer returns the half of a bracket that is a bracket, too.
func (s section) finer(bracket Induction) Induction {
	lower := Induction{At: 2 * bracket.At, Depth: bracket.Depth + 1}
	if upper := lower.next(); s.balance(upper) <= 0 {
		return upper
	}
	return lower
}

// checkBracket returns ErrProof if an induction is not the bracket of its depth.
func (s section) checkBracket(at Induction) api.Errno {
	if found, ok := s.bracket(at.Depth); !ok || found != at {
		return api.ErrProof
	}
	return api.OK
}

// Inflow returns the inflow of a ring at an induction.
func Inflow(b Blade, f Flow, ring int, at Induction) (int, api.Errno) {
	s, e := sectionAt(b, f, ring, at)
	if e != api.OK {
		return 0, e
	}
	return s.inflow(at), api.OK
}

// Class returns the class of the polar for an inflow.
func Class(b Blade, f Flow, ring, inflow int) (int, api.Errno) {
	s, e := sectionOf(b, f, ring)
	if e := check.First(e, check.Range(inflow, 0, api.MaxNumber)); e != api.OK {
		return 0, e
	}
	return s.class(inflow), api.OK
}

// Balance returns the balance of a ring at an induction.
func Balance(b Blade, f Flow, ring int, at Induction) (int, api.Errno) {
	s, e := sectionAt(b, f, ring, at)
	if e != api.OK {
		return 0, e
	}
	return s.balance(at), api.OK
}

// Find returns the bracket of a ring.
func Find(b Blade, f Flow, ring, depth int) (Induction, api.Errno) {
	s, e := sectionOf(b, f, ring)
	if e := check.First(e, checkDepth(depth)); e != api.OK {
		return Induction{}, e
	}
	out, ok := s.bracket(depth)
	if !ok {
		return Induction{}, api.ErrNone
	}
	return out, api.OK
}

// CheckBracket returns OK for the bracket of a ring.
func CheckBracket(b Blade, f Flow, ring int, at Induction) api.Errno {
	s, e := sectionAt(b, f, ring, at)
	if e != api.OK {
		return e
	}
	return s.checkBracket(at)
}

// Refine returns the bracket of a ring, one bit finer.
func Refine(b Blade, f Flow, ring int, at Induction) (Induction, api.Errno) {
	if e := CheckBracket(b, f, ring, at); e != api.OK {
		return Induction{}, e
	}
	if at.Depth == MaxDepth {
		return Induction{}, api.ErrLimit
	}
	return Find(b, f, ring, at.Depth+1)
}
