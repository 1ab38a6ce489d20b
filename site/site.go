// Package site is layer 1: spans of time, layouts of turbines, sectors and roses of wind, series of samples, texts and streams.
package site

import (
	"nacelle/api"
	"nacelle/check"
)

// Turbine is a turbine at a place.
type Turbine struct {
	Name string
	At   api.Point
}

// Site is turbines no two of which are nearer to one another than a least distance.
type Site struct {
	Name     string
	Least    int
	Turbines []Turbine
}

// steps has the step down the wind of each sector; y grows to the north, x to the east.
var steps = [api.Sectors]api.Point{
	{X: 0, Y: -1}, {X: -1, Y: -1}, {X: -1, Y: 0}, {X: -1, Y: 1},
	{X: 0, Y: 1}, {X: 1, Y: 1}, {X: 1, Y: 0}, {X: 1, Y: -1},
}

// CheckSite returns the first error of a site, or OK.
func CheckSite(s Site) api.Errno {
	if !IsName(s.Name) {
		return api.ErrName
	}
	if e := check.Range(s.Least, 1, api.MaxPlace); e != api.OK {
		return e
	}
	if len(s.Turbines) > api.MaxTurbines {
		return api.ErrMany
	}
	return checkTurbines(s.Turbines, s.Least)
}

// checkTurbines returns the first error of the first turbine with one, or OK.
func checkTurbines(l []Turbine, least int) api.Errno {
	e := api.OK
	byName := map[string]Turbine{}
search:
	for i, t := range l {
		_, twice := byName[t.Name]
		e = checkTurbine(t, twice)
		if e != api.OK {
			break
		}
		for _, other := range l[:i] {
			if squared(t.At, other.At) < least*least {
				e = api.ErrOverlap
				break search
			}
		}
		byName[t.Name] = t
	}
	return e
}

// checkTurbine returns the error of a turbine by itself, or ErrTwice if its name was used before.
func checkTurbine(t Turbine, twice bool) api.Errno {
	if !IsName(t.Name) {
		return api.ErrName
	}
	if e := check.Place(t.At); e != api.OK {
		return e
	}
	if twice {
		return api.ErrTwice
	}
	return api.OK
}

// squared returns the squared distance of two places.
func squared(a, b api.Point) int {
	x, y := a.X-b.X, a.Y-b.Y
	return x*x + y*y
}

// Spacing returns the least squared distance of two turbines.
func Spacing(s Site) (int, api.Errno) {
	if e := CheckSite(s); e != api.OK {
		return 0, e
	}
	if len(s.Turbines) < 2 {
		return 0, api.ErrNone
	}
	least := squared(s.Turbines[0].At, s.Turbines[1].At)
	for _, a := range s.Turbines {
		for _, b := range s.Turbines {
			if a != b {
				least = min(least, squared(a.At, b.At))
			}
		}
	}
	return least, api.OK
}

// TurnSite returns a site that is turned by quarter turns.
func TurnSite(s Site, quarters int) (Site, api.Errno) {
	if e := check.First(CheckSite(s), checkTurns(quarters)); e != api.OK {
		return Site{}, e
	}
	return moved(s, func(p api.Point) api.Point {
		for range quarters {
			p = api.Point{X: p.Y, Y: -p.X}
		}
		return p
	}), api.OK
}

// ShiftSite returns a site that is shifted.
func ShiftSite(s Site, by api.Point) (Site, api.Errno) {
	if e := check.First(CheckSite(s), check.Place(by)); e != api.OK {
		return Site{}, e
	}
	out := moved(s, func(p api.Point) api.Point { return api.Point{X: p.X + by.X, Y: p.Y + by.Y} })
	for _, t := range out.Turbines {
		if e := check.Place(t.At); e != api.OK {
			return Site{}, e
		}
	}
	return out, api.OK
}

// moved returns a copy of a site whose turbines stand where a function says.
func moved(s Site, to func(api.Point) api.Point) Site {
	turbines := make([]Turbine, len(s.Turbines))
	copy(turbines, s.Turbines)
	for i := range turbines {
		turbines[i].At = to(turbines[i].At)
	}
	s.Turbines = turbines
	return s
}

// checkTurns returns ErrRange if a number of quarter turns is not from 0 to 3.
func checkTurns(quarters int) api.Errno { return check.Range(quarters, 0, 3) }

// Step returns the step down the wind of a sector.
func Step(sector int) (api.Point, api.Errno) {
	if e := check.Range(sector, 0, api.Sectors-1); e != api.OK {
		return api.Point{}, e
	}
	return steps[sector], api.OK
}
