// Package check has the checks of arguments that several layers share.
package check

import (
	"math"

	"nacelle/api"
)

// First returns the first error that is not OK, or OK.
func First(errors ...api.Errno) api.Errno {
	for _, e := range errors {
		if e != api.OK {
			return e
		}
	}
	return api.OK
}

// That returns an error if something does not hold, or OK.
func That(holds bool, e api.Errno) api.Errno {
	if holds {
		return api.OK
	}
	return e
}

// Range returns ErrRange if a number is not from least to most.
func Range(n, least, most int) api.Errno { return That(least <= n && n <= most, api.ErrRange) }

// Finite returns ErrForm if a number is NaN or infinite.
func Finite(x float64) api.Errno { return That(!math.IsNaN(x) && !math.IsInf(x, 0), api.ErrForm) }

// Sixteenths returns ErrRange if a number is not a multiple of 1/16 from least to most.
func Sixteenths(x float64, least, most int) api.Errno {
	parts := 16 * x
	return That(float64(least) <= x && x <= float64(most) && parts == math.Trunc(parts), api.ErrRange)
}

// Complex returns the first error of a complex number whose parts are multiples of 1/16, at most most and at least its opposite, or OK.
func Complex(x complex128, most int) api.Errno {
	return First(Finite(real(x)), Finite(imag(x)), Sixteenths(real(x), -most, most), Sixteenths(imag(x), -most, most))
}

// Many returns ErrMany if there are more elements than most.
func Many(count, most int) api.Errno { return That(count <= most, api.ErrMany) }

// Filled returns ErrEmpty if there are no elements, ErrMany if there are more than most.
func Filled(count, most int) api.Errno {
	return First(That(count != 0, api.ErrEmpty), Many(count, most))
}

// Shape returns ErrShape if two lengths are not the same.
func Shape(a, b int) api.Errno { return That(a == b, api.ErrShape) }

// Each returns the first error that a function finds in an element of a list, or OK.
func Each[T any](l []T, find func(T) api.Errno) api.Errno {
	for _, x := range l {
		if e := find(x); e != api.OK {
			return e
		}
	}
	return api.OK
}

// Row returns the first error that a function finds in an element of a list and the one before it, or OK. Start is before the first one.
func Row[T any](l []T, start T, find func(before, x T) api.Errno) api.Errno {
	before := start
	return Each(l, func(x T) api.Errno {
		e := find(before, x)
		before = x
		return e
	})
}

// Once returns a function that returns ErrTwice for a name that it was given before.
func Once() func(name string) api.Errno {
	given := map[string]bool{}
	return func(name string) api.Errno {
		twice := given[name]
		given[name] = true
		return That(!twice, api.ErrTwice)
	}
}

// Ranges returns ErrRange if a number is not from least to most.
func Ranges(l []int, least, most int) api.Errno {
	return Each(l, func(n int) api.Errno { return Range(n, least, most) })
}

// Order returns ErrOrder if things are not in their order.
func Order(ordered bool) api.Errno { return That(ordered, api.ErrOrder) }

// Rising returns the first error of numbers from 0 to most, none of which is below the one before it, or OK.
func Rising(l []int, most int) api.Errno {
	return Row(l, 0, func(before, n int) api.Errno { return First(Range(n, 0, most), Order(before <= n)) })
}

// Place returns ErrRange if a coordinate is not in its range.
func Place(p api.Point) api.Errno {
	return First(Range(p.X, -api.MaxPlace, api.MaxPlace), Range(p.Y, -api.MaxPlace, api.MaxPlace))
}
