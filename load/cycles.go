package load

import (
	"cmp"
	"slices"

	"nacelle/api"
	"nacelle/check"
	"nacelle/list"
)

// window is how many reversals on the top of the stack decide on a cycle.
const window = 4

// Cycle is two reversals between which a record turns and comes back.
type Cycle struct {
	From int
	To   int
	Low  int
	High int
}

// size returns the range of a cycle.
func (c Cycle) size() int { return c.High - c.Low }

// compare compares two cycles by their ranges.
func (c Cycle) compare(d Cycle) int { return cmp.Compare(c.size(), d.size()) }

// check returns the first error of a cycle, or OK.
func (c Cycle) check() api.Errno {
	return check.First(
		checkIndex(c.From), checkIndex(c.To), checkLoad(c.Low), checkLoad(c.High),
		check.Order(c.From < c.To && c.Low < c.High),
	)
}

// CheckCycles returns the first error of cycles, or OK.
func CheckCycles(l []Cycle) api.Errno {
	return check.First(check.Many(len(l), api.MaxTime), check.Each(l, Cycle.check))
}

// top is the last four reversals on the stack.
type top [window]Reversal

// cycle returns the cycle of the two in the middle, or false if their difference is above one beside it.
func (t top) cycle() (Cycle, bool) {
	a, b, c, d := t[0], t[1], t[2], t[3]
	nested := b.difference(c) <= min(a.difference(b), c.difference(d))
	return Cycle{From: b.At, To: c.At, Low: min(b.Load, c.Load), High: max(b.Load, c.Load)}, nested
}

// count returns the cycles and the residue of reversals that were checked.
func count(l []Reversal) ([]Cycle, []Reversal) {
	var cycles []Cycle
	var stack []Reversal
reversals:
	for _, r := range l {
		stack = append(stack, r)
		for len(stack) >= window {
			bottom := len(stack) - window
			cycle, nested := top(stack[bottom:]).cycle()
			if !nested {
				continue reversals
			}
			cycles = append(cycles, cycle)
			stack = append(stack[:bottom+1], r)
		}
	}
	return cycles, stack
}

// Count returns the cycles and the residue of reversals.
func Count(l []Reversal) ([]Cycle, []Reversal, api.Errno) {
	if e := CheckReversals(l); e != api.OK {
		return nil, nil, e
	}
	cycles, residue := count(l)
	return cycles, residue, api.OK
}

// CheckCount returns OK for the cycles and the residue of reversals.
func CheckCount(l []Reversal, cycles []Cycle, residue []Reversal) api.Errno {
	taken, left, e := Count(l)
	return check.First(e, check.That(slices.Equal(cycles, taken) && slices.Equal(residue, left), api.ErrProof))
}

// Filter returns the reversals without cycles below a range.
func Filter(l []Reversal, least int) ([]Reversal, api.Errno) {
	if e := check.First(CheckReversals(l), checkNumber(least)); e != api.OK {
		return nil, e
	}
	cycles, _ := count(l)
	small := map[int]bool{} // whether a cycle below the range has this index
	for _, c := range cycles {
		if c.size() < least {
			small[c.From], small[c.To] = true, true
		}
	}
	return list.Kept(l, func(r Reversal) bool { return !small[r.At] }), api.OK
}

// Closed returns the cycles of reversals that are joined with themselves.
func Closed(l []Reversal) ([]Cycle, api.Errno) {
	if e := CheckReversals(l); e != api.OK || len(l) == 0 {
		return nil, e
	}
	closed, e := joined(l, l, l[len(l)-1].At-l[0].At+1)
	cycles, _ := count(closed)
	return cycles, e
}
