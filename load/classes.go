package load

import (
	"slices"

	"nacelle/api"
	"nacelle/check"
	"nacelle/list"
)

// Class is a number of cycles with ranges of a class.
type Class struct {
	Number int
	Count  int
}

// Classes returns how many cycles there are in classes of ranges.
func Classes(l []Cycle, width int) ([]Class, api.Errno) {
	if e := check.First(CheckCycles(l), check.Range(width, 1, api.MaxNumber)); e != api.OK {
		return nil, e
	}
	var numbers []int
	counts := map[int]int{} // by the numbers of the classes
	for _, c := range slices.SortedFunc(slices.Values(l), Cycle.compare) {
		number := c.size() / width
		if counts[number] == 0 {
			numbers = append(numbers, number)
		}
		counts[number]++
	}
	return list.Changed(numbers, func(number int) Class { return Class{Number: number, Count: counts[number]} }), api.OK
}

// Greatest returns the greatest range of reversals.
func Greatest(l []Reversal) (int, api.Errno) {
	if e := check.First(CheckReversals(l), check.That(len(l) >= 2, api.ErrNone)); e != api.OK {
		return 0, e
	}
	loads := list.Changed(l, func(r Reversal) int { return r.Load })
	return slices.Max(loads) - slices.Min(loads), api.OK
}

// Crossings returns how often reversals rise above a level.
func Crossings(l []Reversal, level int) (int, api.Errno) {
	if e := check.First(CheckReversals(l), checkNumber(level)); e != api.OK {
		return 0, e
	}
	rises := 0
	for before, r := range successive(l) {
		if before.Load <= level && level < r.Load {
			rises++
		}
	}
	return rises, api.OK
}
