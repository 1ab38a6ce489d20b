package grid

import (
	"nacelle/api"
	"nacelle/check"
	"nacelle/list"
	"nacelle/ratio"
)

// Level is a voltage from a time on, since a dip began.
type Level struct {
	Ticks int
	Volts int
}

// Code is a grid code.
type Code struct {
	Corners []api.Point
	Low     int
	High    int
	Ramp    int
	Levels  []Level
}

// noLevel is in place of the one before the first level.
const noLevel = -1

// CheckCode returns the first error of a grid code, or OK.
func CheckCode(c Code) api.Errno {
	return check.First(
		CheckPolygon(c.Corners),
		checkPercent(c.Low), checkPercent(c.High), check.Range(c.Ramp, 0, api.MaxNumber), check.Order(c.Low < c.High),
		check.Filled(len(c.Levels), MaxLevels), check.Row(c.Levels, Level{Ticks: noLevel}, c.checkLevel),
	)
}

// checkLevel returns the first error of a level behind another one, or OK.
func (c Code) checkLevel(before, l Level) api.Errno {
	follows := before.Ticks < l.Ticks && before.Volts <= l.Volts
	if before.Ticks == noLevel {
		follows = l.Ticks == 0
	}
	return check.First(check.Range(l.Ticks, 0, MaxTicks), check.Range(l.Volts, 0, c.Low), check.Order(follows))
}

// clause is a number, and whether an operating point does not meet this clause of a code.
type clause struct {
	number int
	fails  func(c Code, p api.Point, volts int) bool
}

// clauses returns the clauses of codes.
func clauses() []clause {
	return []clause{
		{1, func(c Code, p api.Point, _ int) bool { return !cornersOf(c.Corners).contains(corner(p)) }},
		{2, func(c Code, _ api.Point, volts int) bool { return volts < c.Low }},
		{3, func(c Code, _ api.Point, volts int) bool { return volts > c.High }},
	}
}

// Meets returns the number of the clause that an operating point does not meet, or 0.
func Meets(c Code, p api.Point, volts int) (int, api.Errno) {
	if e := check.First(CheckCode(c), checkPoint(p), checkPercent(volts)); e != api.OK {
		return 0, e
	}
	for _, x := range clauses() {
		if x.fails(c, p, volts) {
			return x.number, api.OK
		}
	}
	return 0, api.OK
}

// Curtail returns the greatest permitted active power.
func Curtail(c Code, p api.Point) (int, api.Errno) {
	if e := check.First(CheckCode(c), checkPoint(p)); e != api.OK {
		return 0, e
	}
	span, e := Range(c.Corners, p.Y)
	if e != api.OK {
		return 0, api.ErrInfeasible
	}
	power := min(p.X, ratio.Floor(span[1]))
	if !cornersOf(c.Corners).contains(corner{X: power, Y: p.Y}) {
		return 0, api.ErrInfeasible
	}
	return power, api.OK
}

// Ramps returns the first index at which powers change too fast, or -1.
func Ramps(c Code, l []int) (int, api.Errno) {
	if e := check.First(CheckCode(c), check.Many(len(l), MaxTicks), check.Each(l, checkPower)); e != api.OK {
		return 0, e
	}
	return list.Jump(l, c.Ramp), api.OK
}

// level returns the voltage of the level of a tick, counted from the begin of a dip.
func (c Code) level(tick int) int {
	reached := list.Kept(c.Levels, func(l Level) bool { return l.Ticks <= tick })
	return reached[len(reached)-1].Volts
}

// Ride returns the first index at which a farm is off, and must not be, or -1.
func Ride(c Code, volts []int, on []bool) (int, api.Errno) {
	if e := check.First(CheckCode(c), check.Many(len(volts), MaxTicks), check.Each(volts, checkPercent), check.Shape(len(volts), len(on))); e != api.OK {
		return 0, e
	}
	ticks, excused := 0, false // of the dip, and whether the voltage was below its level in it
	for tick := range len(volts) {
		if volts[tick] < c.Low {
			excused = excused || volts[tick] < c.level(ticks)
			ticks++
		} else {
			ticks, excused = 0, false
		}
		if !on[tick] && !excused {
			return tick, api.OK
		}
	}
	return -1, api.OK
}
