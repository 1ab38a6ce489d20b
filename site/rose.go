package site

import (
	"nacelle/api"
	"nacelle/check"
	"nacelle/span"
)

// Rose is how many quarters of an hour the wind blew from each sector, with each speed.
type Rose [api.Sectors][api.MaxSpeed + 1]int

// CheckRose returns the first error of a rose, or OK.
func CheckRose(r Rose) api.Errno {
	for _, numbers := range r {
		for _, n := range numbers {
			if e := check.Range(n, 0, api.MaxTime); e != api.OK {
				return e
			}
		}
	}
	return api.OK
}

// TurnRose returns a rose that is turned by quarter turns.
func TurnRose(r Rose, quarters int) (Rose, api.Errno) {
	if e := check.First(CheckRose(r), checkTurns(quarters)); e != api.OK {
		return Rose{}, e
	}
	var out Rose
	for sector := range api.Sectors {
		out[(sector+2*quarters)%api.Sectors] = r[sector]
	}
	return out, api.OK
}

// Quarters returns the number of quarters of an hour of a rose.
func Quarters(r Rose) (int, api.Errno) {
	if e := CheckRose(r); e != api.OK {
		return 0, e
	}
	if r == (Rose{}) {
		return 0, api.OK
	}
	sum := 0
	for sector := range api.Sectors {
		for speed := range api.MaxSpeed + 1 {
			sum += r[sector][speed]
		}
	}
	return sum, api.OK
}

// Blown returns the rose of a series of speeds and one of sectors.
func Blown(speeds, sectors Series) (Rose, api.Errno) {
	if e := check.First(CheckSeries(speeds), CheckSeries(sectors)); e != api.OK {
		return Rose{}, e
	}
	if speeds.Start != sectors.Start || len(speeds.Samples) != len(sectors.Samples) {
		return Rose{}, api.ErrShape
	}
	var out Rose
	for q := range span.Quarters(common(recorded(speeds), recorded(sectors))) {
		speed, sector := speeds.Samples[q], sectors.Samples[q]
		if !isSpeed(speed) || !isSector(sector) {
			return Rose{}, api.ErrRange
		}
		out[int(sector)][int(speed)]++
	}
	return out, api.OK
}

// isSpeed reports whether a sample, rounded down, is a speed of a rose.
func isSpeed(x float32) bool { return 0 <= x && x < api.MaxSpeed+1 }

// isSector reports whether a sample is the number of a sector.
func isSector(x float32) bool { return 0 <= x && x < api.Sectors && x == float32(int(x)) }
