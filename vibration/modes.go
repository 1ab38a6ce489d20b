package vibration

import (
	"iter"

	"nacelle/api"
	"nacelle/check"
	"nacelle/list"
)

const (
	eighths   = 8 // of which values and the places of modes are counted
	maxDamped = 3 // masses of a chain with dampers
)

// checkValue returns the first error of a chain and a value, or OK.
func checkValue(c Chain, at int) api.Errno {
	return check.First(CheckChain(c), check.Range(at, 0, MaxAt))
}

// minors returns the determinants of the first rows and columns of a matrix, from no rows on. It has a diagonal, on both sides of which
// there are the same elements; the first one of these is outside of it.
func minors[N int | complex128](diagonal, beside []N) []N {
	before, last := N(0), N(1)
	out := []N{last}
	for i, x := range diagonal {
		before, last = last, x*last-beside[i]*beside[i]*before
		out = append(out, last)
	}
	return out
}

// matrix returns 8 K - n M at a value n: its diagonal, and the elements beside it without their sign, which no determinant shows.
func (c Chain) matrix(at int) (diagonal, beside []int) {
	for i, x := range c.stiffness() {
		diagonal = append(diagonal, eighths*x-at*c.Masses[i])
		beside = append(beside, eighths*c.Springs[i])
	}
	return diagonal, beside
}

// count returns how many modes are below a value: as many as there are changes of the sign from a minor to the next one.
func (c Chain) count(at int) int {
	changes, below := 0, false
	for _, minor := range minors(c.matrix(at)) {
		// A minor of 0 is passed over: those beside it have different signs, and the last one is 0 at a mode, which is not below.
		if minor != 0 && minor < 0 != below {
			changes++
			below = !below
		}
	}
	return changes
}

// modes visits the modes of a chain that was checked, with their indices and the eighths in which they lie.
func (c Chain) modes() iter.Seq2[int, int] {
	return func(yield func(int, int) bool) {
		index := 0
	search:
		for eighth := range c.reach() + 1 {
			for ; index < c.count(eighth+1); index++ {
				if !yield(index, eighth) {
					break search
				}
			}
		}
	}
}

// Polynomial returns the characteristic polynomial of a chain, the constant first.
func Polynomial(c Chain) ([]int, api.Errno) {
	if e := CheckChain(c); e != api.OK {
		return nil, e
	}
	var before, last [MaxMasses + 1]int
	last[0] = 1
	for i, x := range c.stiffness() {
		var next [MaxMasses + 1]int
		for power := range i + 2 {
			next[power] = x*last[power] - c.Springs[i]*c.Springs[i]*before[power]
			if power > 0 {
				next[power] -= c.Masses[i] * last[power-1]
			}
		}
		before, last = last, next
	}
	return last[:len(c.Masses)+1], api.OK
}

// Value returns the determinant of a chain at a value.
func Value(c Chain, at int) (int, api.Errno) {
	if e := checkValue(c, at); e != api.OK {
		return 0, e
	}
	return minors(c.matrix(at))[len(c.Masses)], api.OK
}

// Count returns how many modes of a chain are below a value.
func Count(c Chain, at int) (int, api.Errno) {
	if e := checkValue(c, at); e != api.OK {
		return 0, e
	}
	return c.count(at), api.OK
}

// Interval returns the eighth in which a mode lies.
func Interval(c Chain, index int) (int, api.Errno) {
	if e := CheckChain(c); e != api.OK {
		return 0, e
	}
	for i, eighth := range c.modes() {
		if i == index {
			return eighth, api.OK
		}
	}
	return 0, api.ErrRange
}

// Damped returns the determinant of a damped chain at a value.
func Damped(c Chain, dampers []int, at int) (complex128, api.Errno) {
	if e := CheckChain(c); e != api.OK {
		return 0, e
	}
	if len(c.Masses) > maxDamped {
		return 0, api.ErrLimit
	}
	if e := check.First(check.Shape(len(c.Masses), len(dampers)), check.Ranges(dampers, 0, MaxSpring), checkValue(c, at)); e != api.OK {
		return 0, e
	}
	diagonal, beside := c.matrix(at)
	damped := list.Changed(diagonal, real128)
	for i, d := range dampers {
		damped[i] += complex(0, float64(eighths*d))
	}
	return minors(damped, list.Changed(beside, real128))[len(c.Masses)] + 0, api.OK // 0 is in place of -0
}

// real128 returns an integer as a complex number.
func real128(n int) complex128 { return complex(float64(n), 0) }
