package rotor

import (
	"nacelle/api"
	"nacelle/check"
)

// Pair is A + B w, where w is a cubic root of unity.
type Pair struct {
	A int
	B int
}

// revolution is how many thirds a revolution has.
const revolution = 3

// powers are those of w: behind a revolution they repeat.
var powers = [revolution]Pair{{A: 1}, {B: 1}, {A: -1, B: -1}}

// plus returns the sum of two pairs.
func (p Pair) plus(q Pair) Pair { return Pair{A: p.A + q.A, B: p.B + q.B} }

// times returns the product of two pairs: w w is -1 - w.
func (p Pair) times(q Pair) Pair {
	return Pair{A: p.A*q.A - p.B*q.B, B: p.A*q.B + p.B*q.A - p.B*q.B}
}

// turned returns a pair that is turned by thirds of a revolution.
func (p Pair) turned(thirds int) Pair {
	return p.times(powers[(thirds%revolution+revolution)%revolution])
}

// checkNumber returns ErrRange if an integer is not in its range.
func checkNumber(n int) api.Errno { return check.Range(n, -api.MaxNumber, api.MaxNumber) }

// checkPair returns ErrRange if a number of a pair is not in its range.
func checkPair(p Pair) api.Errno { return check.First(checkNumber(p.A), checkNumber(p.B)) }

// checkLoads returns ErrRange if loads are not in their range.
func checkLoads(loads [3]int) api.Errno {
	near := loads
	for i, x := range loads {
		near[i] = min(max(x, -MaxLoad), MaxLoad)
	}
	if near != loads {
		return api.ErrRange
	}
	return api.OK
}

// checkRecord returns the first error of a record, or OK.
func checkRecord(l [][3]int) api.Errno {
	return check.First(check.Many(len(l), MaxRecord), check.Each(l, checkLoads))
}

// split returns the sum and the component of loads.
func split(loads [3]int) (int, Pair) {
	sum, component := 0, Pair{}
	for i, x := range loads {
		sum += x
		component = component.plus(Pair{A: x}.turned(i))
	}
	return sum, component
}

// Split returns the sum and the component of the loads of three blades.
func Split(loads [3]int) (int, Pair, api.Errno) {
	if e := checkLoads(loads); e != api.OK {
		return 0, Pair{}, e
	}
	sum, component := split(loads)
	return sum, component, api.OK
}

// Merge returns the loads of three blades with a sum and a component.
func Merge(sum int, c Pair) ([3]int, api.Errno) {
	if e := check.First(check.Range(sum, -3*MaxLoad, 3*MaxLoad), checkPair(c)); e != api.OK {
		return [3]int{}, e
	}
	third := (sum - c.A - c.B) / 3 // rounded, unless there are such loads: what is split then has another sum
	loads := [3]int{third + c.A, third + c.B, third}
	if total, component := split(loads); total != sum || component != c {
		return [3]int{}, api.ErrConflict
	}
	if e := checkLoads(loads); e != api.OK {
		return [3]int{}, e
	}
	return loads, api.OK
}

// Times returns the product of two pairs.
func Times(a, b Pair) (Pair, api.Errno) {
	if e := check.First(checkPair(a), checkPair(b)); e != api.OK {
		return Pair{}, e
	}
	return a.times(b), api.OK
}

// Conjugate returns the conjugate of a pair.
func Conjugate(a Pair) (Pair, api.Errno) {
	if e := checkPair(a); e != api.OK {
		return Pair{}, e
	}
	return Pair{A: a.A - a.B, B: -a.B}, api.OK
}

// Norm returns the norm of a pair.
func Norm(a Pair) (int, api.Errno) {
	if e := checkPair(a); e != api.OK {
		return 0, e
	}
	return a.A*a.A - a.A*a.B + a.B*a.B, api.OK
}

// Turn returns a pair that is turned by thirds of a revolution.
func Turn(a Pair, thirds int) (Pair, api.Errno) {
	if e := check.First(checkPair(a), checkNumber(thirds)); e != api.OK {
		return Pair{}, e
	}
	return a.turned(thirds), api.OK
}

// Rotating returns the part of loads that turns with the rotor.
func Rotating(l [][3]int) (Pair, api.Errno) {
	return part(l, func(t int, component Pair) Pair { return component })
}

// Fixed returns the part of loads that stands still.
func Fixed(l [][3]int) (Pair, api.Errno) {
	return part(l, func(t int, component Pair) Pair { return component.turned(t) })
}

// part returns the sum of what a function makes of the index and the component of each entry of a record.
func part(l [][3]int, change func(int, Pair) Pair) (Pair, api.Errno) {
	if e := checkRecord(l); e != api.OK {
		return Pair{}, e
	}
	var out Pair
	for t, loads := range l {
		_, component := split(loads)
		out = out.plus(change(t, component))
	}
	return out, api.OK
}
