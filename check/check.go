// Package check has the checks of arguments that several layers share.
package check

import (
	"nacelle/api"
)

// First returns the first error that is not OK, or OK.
func First(errors ...api.Errno) api.Errno {
	for _, e := range errors {
		if e != api.OK {
			return e
		}
	}
	return api.OK
}

// Range returns ErrRange if a number is not from least to most.
func Range(n, least, most int) api.Errno {
	if n < least || n > most {
		return api.ErrRange
	}
	return api.OK
}

// Rising returns the first error of numbers from 0 to most, none of which is below the one before it, or OK.
func Rising(l []int, most int) api.Errno {
	before := 0
	for _, n := range l {
		if e := Range(n, 0, most); e != api.OK {
			return e
		}
		if n < before {
			return api.ErrOrder
		}
		before = n
	}
	return api.OK
}

// Place returns ErrRange if a coordinate is not in its range.
func Place(p api.Point) api.Errno {
	return First(Range(p.X, -api.MaxPlace, api.MaxPlace), Range(p.Y, -api.MaxPlace, api.MaxPlace))
}
