package market

import (
	"cmp"
	"slices"

	"nacelle/api"
	"nacelle/check"
	"nacelle/list"
)

// portion is what an energy gets of a limit, and the remainder of this division.
type portion struct {
	index     int
	quotient  int
	remainder int
}

// compare compares two portions such that the one with the greater remainder comes first.
func (p portion) compare(q portion) int { return cmp.Compare(q.remainder, p.remainder) }

// portionsOf returns the portions of energies in a limit, rounded down, and what is left of the limit. The sum of the energies is not 0.
func portionsOf(energies []int, limit int) ([]portion, int) {
	out := make([]portion, len(energies))
	sum, left := list.Sum(energies), limit
	for i, energy := range energies {
		out[i] = portion{index: i, quotient: energy * limit / sum, remainder: energy * limit % sum}
		left -= out[i].quotient
	}
	return out, left
}

// curtailed returns what is fed in of energies by a limit.
func curtailed(energies []int, limit int) []int {
	if list.Sum(energies) <= limit {
		return slices.Clone(energies)
	}
	portions, left := portionsOf(energies, limit)
	ranked := slices.Clone(portions)
	slices.SortStableFunc(ranked, portion.compare)
	for _, p := range ranked[:left] {
		portions[p.index].quotient++
	}
	return list.Changed(portions, func(p portion) int { return p.quotient })
}

// Curtail returns what each turbine feeds in.
func Curtail(available []int, limit int) ([]int, api.Errno) {
	if e := check.First(check.Many(len(available), api.MaxTurbines), check.Each(available, checkEnergy), checkTotal(limit)); e != api.OK {
		return nil, e
	}
	return curtailed(available, limit), api.OK
}
