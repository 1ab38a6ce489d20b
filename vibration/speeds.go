package vibration

import (
	"slices"

	"nacelle/api"
	"nacelle/check"
)

const (
	maxRotor  = 100 // speeds of a rotor
	maxOrders = 8
	maxBands  = 100
)

// checkSpeed returns ErrRange if a speed of a rotor is not in its range.
func checkSpeed(speed int) api.Errno { return check.Range(speed, 1, maxRotor) }

// checkOrders returns the first error of orders, or OK.
func checkOrders(l []int) api.Errno {
	return check.First(check.Filled(len(l), maxOrders), check.Row(l, 0, func(before, order int) api.Errno {
		return check.First(check.Range(order, 1, MaxOrder), check.Order(before < order))
	}))
}

// checkBands returns the first error of bands, or OK.
func checkBands(l [][2]int) api.Errno {
	// The first band may begin at the speed 1, as if the one before it ended below 0.
	return check.First(check.Many(len(l), maxBands), check.Row(l, [2]int{-1, -1}, func(before, band [2]int) api.Errno {
		return check.First(checkSpeed(band[0]), checkSpeed(band[1]), check.Order(band[0] <= band[1] && before[1]+2 <= band[0]))
	}))
}

// rule is what forbids speeds: modes in eighths, orders and a guard.
type rule struct {
	modes  []int
	orders []int
	guard  int
}

// ruleOf returns the rule of a chain by orders and a guard, or the first error of these and of a speed.
func ruleOf(c Chain, orders []int, guard, speed int) (rule, api.Errno) {
	e := check.First(CheckChain(c), checkOrders(orders), check.Range(guard, 0, MaxGuard), checkSpeed(speed))
	if e != api.OK {
		return rule{}, e
	}
	out := rule{orders: orders, guard: guard}
	for _, eighth := range c.modes() {
		out.modes = append(out.modes, eighth)
	}
	return out, api.OK
}

// forbids reports whether a speed is too near to a mode.
func (r rule) forbids(speed int) bool {
	for _, order := range r.orders {
		square := order * speed * order * speed
		for _, eighth := range r.modes {
			if square-r.guard <= eighth && eighth <= square+r.guard {
				return true
			}
		}
	}
	return false
}

// Forbidden reports whether a speed is too near to a mode.
func Forbidden(c Chain, orders []int, guard, speed int) (bool, api.Errno) {
	r, e := ruleOf(c, orders, guard, speed)
	return r.forbids(speed), e
}

// Bands returns the bands of forbidden speeds.
func Bands(c Chain, orders []int, guard, most int) ([][2]int, api.Errno) {
	r, e := ruleOf(c, orders, guard, most)
	if e != api.OK {
		return nil, e
	}
	var out [][2]int
	for speed := 1; speed <= most; speed++ {
		if r.forbids(speed) {
			out = extended(out, speed)
		}
	}
	return out, api.OK
}

// extended returns bands with a speed behind them: in the last one, if that ends just below it.
func extended(l [][2]int, speed int) [][2]int {
	if last := len(l) - 1; last >= 0 && l[last][1] == speed-1 {
		l[last][1] = speed
		return l
	}
	return append(l, [2]int{speed, speed})
}

// Crossing returns the index at which speeds stay too long in a band, or -1.
func Crossing(bands [][2]int, speeds []int, most int) (int, api.Errno) {
	e := check.First(checkBands(bands), check.Many(len(speeds), MaxSamples), check.Ranges(speeds, 0, maxRotor), check.Range(most, 1, MaxSamples))
	if e != api.OK {
		return 0, e
	}
	stay := 0
	for i, speed := range speeds {
		stay++
		if !slices.ContainsFunc(bands, func(b [2]int) bool { return b[0] <= speed && speed <= b[1] }) {
			stay = 0
		}
		if stay > most {
			return i, api.OK
		}
	}
	return -1, api.OK
}
