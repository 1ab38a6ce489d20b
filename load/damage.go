package load

import (
	"slices"
	"sort"

	"nacelle/api"
	"nacelle/check"
	"nacelle/list"
)

// damageBits is how many times MaxDamage can be halved without a remainder.
const damageBits = 60

// Life is a damage that may be done, by an exponent.
type Life struct {
	Capacity int
	Exponent int
}

// check returns the error of a life, or OK.
func (l Life) check() api.Errno {
	return check.First(check.Range(l.Capacity, 1, MaxDamage), checkExponent(l.Exponent))
}

// budget returns twice the capacity of a life, which it spends by twice the damage of loads.
func (l Life) budget() int { return 2 * l.Capacity }

// power returns a number to the power of an exponent.
func power(base, exponent int) int {
	out := 1
	for range exponent {
		out *= base
	}
	return out
}

// root returns the greatest integer whose power by an exponent is at most a number from 0 to MaxDamage.
func root(number, exponent int) int {
	above := 1<<(damageBits/exponent) + 1 // the power of one less is MaxDamage
	return sort.Search(above, func(x int) bool { return power(x, exponent) > number }) - 1
}

// total returns the sum of the powers of ranges, or ErrLarge if it is above MaxDamage. There it ends, so that no sum is too large for an int.
func total(ranges []int, exponent int) (int, api.Errno) {
	sum := 0
	for _, x := range ranges {
		sum += power(x, exponent)
		if sum > MaxDamage {
			return 0, api.ErrLarge
		}
	}
	return sum, api.OK
}

// sizes returns the ranges of cycles.
func sizes(l []Cycle) []int { return list.Changed(l, Cycle.size) }

// differences returns the differences of successive reversals.
func differences(l []Reversal) []int {
	var out []int
	for before, r := range successive(l) {
		out = append(out, before.difference(r))
	}
	return out
}

// Damage returns the sum of the powers of the ranges of cycles.
func Damage(l []Cycle, exponent int) (int, api.Errno) {
	if e := check.First(CheckCycles(l), checkExponent(exponent)); e != api.OK {
		return 0, e
	}
	return total(sizes(l), exponent)
}

// Half returns the sum of the powers of the ranges of reversals.
func Half(l []Reversal, exponent int) (int, api.Errno) {
	if e := check.First(CheckReversals(l), checkExponent(exponent)); e != api.OK {
		return 0, e
	}
	return total(differences(l), exponent)
}

// twice returns twice the damage of loads that were checked, or ErrLarge.
func twice(l []int, exponent int) (int, api.Errno) {
	cycles, residue := count(reversalsOf(l))
	ranges := sizes(cycles)
	return total(slices.Concat(ranges, ranges, differences(residue)), exponent)
}

// Twice returns twice the damage of loads.
func Twice(l []int, exponent int) (int, api.Errno) {
	if e := check.First(CheckLoads(l), checkExponent(exponent)); e != api.OK {
		return 0, e
	}
	return twice(l, exponent)
}

// Equivalent returns the range that does the same damage in some cycles.
func Equivalent(l []Cycle, exponent, number int) (int, api.Errno) {
	if e := check.First(CheckCycles(l), checkExponent(exponent), check.Range(number, 1, api.MaxNumber)); e != api.OK {
		return 0, e
	}
	damage, e := total(sizes(l), exponent)
	return root(damage/number, exponent), e
}

// Repeats returns how often a life bears loads.
func Repeats(life Life, l []int) (int, api.Errno) {
	if e := check.First(life.check(), CheckLoads(l)); e != api.OK {
		return 0, e
	}
	damage, e := twice(l, life.Exponent)
	if e := check.First(e, check.That(damage != 0, api.ErrNone)); e != api.OK {
		return 0, e
	}
	return life.budget() / damage, api.OK
}

// Spend returns how many records a life bears, and what is left.
func Spend(life Life, records [][]int) (int, int, api.Errno) {
	if e := check.First(life.check(), check.Many(len(records), MaxRecords), check.Each(records, CheckLoads)); e != api.OK {
		return 0, 0, e
	}
	var damages []int
	for _, l := range records {
		damage, e := twice(l, life.Exponent)
		if e != api.OK { // also behind the last record that the life bears
			return 0, 0, e
		}
		damages = append(damages, damage)
	}
	borne, left := 0, life.budget()
	for borne < len(damages) && damages[borne] <= left {
		left -= damages[borne]
		borne++
	}
	return borne, left, api.OK
}
