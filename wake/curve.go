package wake

import (
	"strconv"
	"strings"

	"nacelle/api"
	"nacelle/check"
	"nacelle/list"
	"nacelle/text"
)

// Curve is the power at each speed, and the free speed from which on the farm stands still.
type Curve struct {
	Powers []int
	CutOut int
}

// CheckCurve returns the first error of a curve, or OK.
func CheckCurve(c Curve) api.Errno {
	if len(c.Powers) < 2 || len(c.Powers) > api.MaxSpeed+1 {
		return api.ErrShape
	}
	return check.First(checkPowers(c.Powers), check.Range(c.CutOut, 1, api.MaxSpeed+1))
}

// checkPowers returns the first error of powers, or OK; there is a first one.
func checkPowers(l []int) api.Errno {
	if e := check.Rising(l[:1], MaxPower); e != api.OK {
		return e
	}
	if l[0] != 0 {
		return api.ErrZero
	}
	return check.Rising(l, MaxPower)
}

// Value returns the power of a curve at a speed.
func Value(c Curve, speed int) (int, api.Errno) {
	if e := check.First(CheckCurve(c), check.Range(speed, 0, Full*(api.MaxSpeed+1))); e != api.OK {
		return 0, e
	}
	return value(c, speed), api.OK
}

// value returns the value of a curve that was checked.
func value(c Curve, speed int) int {
	k, rest := speed/Full, speed%Full
	if last := len(c.Powers) - 1; k >= last {
		return Full * c.Powers[last]
	}
	return Full*c.Powers[k] + (c.Powers[k+1]-c.Powers[k])*rest
}

// Print returns the text of a curve.
func Print(c Curve) (string, api.Errno) {
	if e := CheckCurve(c); e != api.OK {
		return "", e
	}
	words := append([]string{strconv.Itoa(c.CutOut)}, list.Changed(c.Powers, strconv.Itoa)...)
	return strings.Join(words, " "), api.OK
}

// Parse returns the curve of a text.
func Parse(s string) (Curve, api.Errno) {
	if len(s) > api.MaxText {
		return Curve{}, api.ErrLong
	}
	words := text.Split(s)
	take := words.Take
	var numbers []int
	for !words.Done() {
		n, ok := text.Natural(take())
		if !ok {
			return Curve{}, api.ErrSyntax
		}
		numbers = append(numbers, n)
	}
	out := Curve{CutOut: numbers[0], Powers: numbers[1:]} // also the empty string has a word
	if e := CheckCurve(out); e != api.OK {
		return Curve{}, e
	}
	return out, api.OK
}
