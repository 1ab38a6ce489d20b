package load

import (
	"iter"
	"slices"

	"nacelle/api"
	"nacelle/check"
)

// Reversal is a sample at which a record turns: its index and its load.
type Reversal struct {
	At   int
	Load int
}

// difference returns the absolute difference of the loads of two reversals.
func (r Reversal) difference(s Reversal) int { return max(r.Load-s.Load, s.Load-r.Load) }

// turns reports whether the load of a point is above those on both sides of it, or below both.
func (r Reversal) turns(before, behind Reversal) bool {
	return r.Load > max(before.Load, behind.Load) || r.Load < min(before.Load, behind.Load)
}

// check returns the error of a reversal by itself, or OK.
func (r Reversal) check() api.Errno { return check.First(checkIndex(r.At), checkLoad(r.Load)) }

// checkBehind returns the error of a reversal behind all those before it, or OK.
func (r Reversal) checkBehind(before []Reversal) api.Errno {
	switch last := len(before) - 1; {
	case last < 0:
		return api.OK
	case before[last].At >= r.At:
		return api.ErrOrder
	case before[last].Load == r.Load, last > 0 && !before[last].turns(before[last-1], r):
		return api.ErrShape
	}
	return api.OK
}

// CheckReversals returns the first error of reversals, or OK.
func CheckReversals(l []Reversal) api.Errno {
	if e := check.Many(len(l), api.MaxTime); e != api.OK {
		return e
	}
	for i, r := range l {
		if e := check.First(r.check(), r.checkBehind(l[:i])); e != api.OK {
			return e
		}
	}
	return api.OK
}

// successive visits each reversal but the first one, behind the one before it.
func successive(l []Reversal) iter.Seq2[Reversal, Reversal] {
	return func(yield func(Reversal, Reversal) bool) {
		for i := 1; i < len(l); i++ {
			if !yield(l[i-1], l[i]) {
				return
			}
		}
	}
}

// turning returns the reversals of points.
func turning(points []Reversal) []Reversal {
	var out []Reversal
	for _, p := range points {
		last := len(out) - 1
		switch {
		case last >= 0 && out[last].Load == p.Load: // the first one of these was kept
		case last >= 1 && !out[last].turns(out[last-1], p):
			out[last] = p
		default:
			out = append(out, p)
		}
	}
	return out
}

// reversalsOf returns the reversals of loads that were checked.
func reversalsOf(l []int) []Reversal {
	points := make([]Reversal, len(l))
	for at, load := range l {
		points[at] = Reversal{At: at, Load: load}
	}
	return turning(points)
}

// Reversals returns the reversals of loads.
func Reversals(l []int) ([]Reversal, api.Errno) {
	if e := CheckLoads(l); e != api.OK {
		return nil, e
	}
	return reversalsOf(l), api.OK
}

// raised returns a copy of reversals whose indices are raised by a shift.
func raised(l []Reversal, shift int) []Reversal {
	out := slices.Clone(l)
	for i := range out {
		out[i].At += shift
	}
	return out
}

// joined returns two records that were checked, joined by a shift, or the error of their indices.
func joined(a, b []Reversal, shift int) ([]Reversal, api.Errno) {
	points := slices.Concat(a, raised(b, shift))
	within := check.Each(points, func(p Reversal) api.Errno { return checkIndex(p.At) })
	rising := check.Row(points, Reversal{At: -1}, func(before, p Reversal) api.Errno { return check.Order(before.At < p.At) })
	if e := check.First(within, rising); e != api.OK {
		return nil, e
	}
	return turning(points), api.OK
}

// Joined returns the reversals of two records, one after the other.
func Joined(a, b []Reversal, shift int) ([]Reversal, api.Errno) {
	if e := check.First(CheckReversals(a), CheckReversals(b), check.Range(shift, 0, api.MaxTime)); e != api.OK {
		return nil, e
	}
	return joined(a, b, shift)
}
