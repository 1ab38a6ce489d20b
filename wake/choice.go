package wake

import (
	"iter"
	"math/bits"
	"slices"

	"nacelle/api"
	"nacelle/check"
	"nacelle/list"
	"nacelle/site"
)

// none is in place of an energy where there is no permitted choice.
const none = -1

// Plan is places for turbines, and what decides on their energy.
type Plan struct {
	Places []api.Point
	Least  int
	Wake   Wake
	Curve  Curve
	Rose   site.Rose
}

// CheckPlan returns the first error of a plan, or OK.
func CheckPlan(p Plan) api.Errno {
	if len(p.Places) > api.MaxTurbines {
		return api.ErrMany
	}
	for i, at := range p.Places {
		if e := check.Place(at); e != api.OK {
			return e
		}
		for _, other := range p.Places[:i] {
			if other == at {
				return api.ErrTwice
			}
		}
	}
	return check.First(site.CheckSite(site.Site{Name: "plan", Least: p.Least}), checkAir(p.Wake, p.Curve, p.Rose))
}

// Improve returns the site after the best move to one of some places.
func Improve(f Farm, places []api.Point) (site.Site, int, api.Errno) {
	if e := check.First(CheckFarm(f), checkPlaces(places)); e != api.OK {
		return site.Site{}, 0, e
	}
	m := farmModel(f)
	before := m.energy(placesOf(f.Site))
	out, most := site.Site{}, 0
	for turbine := range f.Site.Turbines {
		others := slices.Delete(placesOf(f.Site), turbine, turbine+1)
		totals := m.totals(others)
		for _, to := range places {
			if !isFree(others, to, f.Site.Least) {
				continue
			}
			if gain := m.energyWith(others, totals, to) - before; gain > most {
				out, most = moved(f.Site, turbine, to), gain
			}
		}
	}
	if most == 0 {
		return site.Site{}, 0, api.ErrNone
	}
	return out, most, api.OK
}

// checkPlaces returns the first error of places for a move, or OK.
func checkPlaces(l []api.Point) api.Errno {
	if len(l) > api.MaxList {
		return api.ErrMany
	}
	return check.First(list.Changed(l, check.Place)...)
}

// isFree reports whether a turbine may stand at a place beside others.
func isFree(others []api.Point, at api.Point, least int) bool {
	for _, p := range others {
		if !isApart(p, at, least) {
			return false
		}
	}
	return true
}

// isApart reports whether two places have the least distance.
func isApart(a, b api.Point, least int) bool {
	x, y := a.X-b.X, a.Y-b.Y
	return x*x+y*y >= least*least
}

// checkExact returns the first error of a plan for an exact search, or OK.
func checkExact(p Plan) api.Errno {
	if e := CheckPlan(p); e != api.OK {
		return e
	}
	if len(p.Places) > api.MaxExact {
		return api.ErrLimit
	}
	return api.OK
}

// Best returns the choice of places with the greatest energy.
func Best(p Plan, n int) ([]int, int, api.Errno) {
	if e := check.First(checkExact(p), check.Range(n, 0, len(p.Places))); e != api.OK {
		return nil, 0, e
	}
	var all []int
	for index := range p.Places {
		all = append(all, index)
	}
	best, energy := bestOf(p, planModel(p), all, n)
	if energy == none {
		return nil, 0, api.ErrInfeasible
	}
	return best, energy, api.OK
}

// planModel returns the model of a plan that was checked.
func planModel(p Plan) model { return modelOf(p.Wake, p.Curve, p.Rose, 0) }

// bestOf returns the first permitted choice of n of some places that has the greatest energy, and this energy, or none.
func bestOf(p Plan, m model, indices []int, n int) ([]int, int) {
	var best []int
	most := none
search:
	for choice := range choices(indices, n) {
		places := list.Changed(choice, func(index int) api.Point { return p.Places[index] })
		for i, j := range pairs(n) {
			if !isApart(places[i], places[j], p.Least) {
				continue search
			}
		}
		if energy := m.energy(places); energy > most {
			best, most = choice, energy
		}
	}
	return best, most
}

// choices visits the lists of n of some elements, in their order: first those with the earliest elements.
func choices(l []int, n int) iter.Seq[[]int] {
	return func(yield func([]int) bool) {
		for mask := 1<<len(l) - 1; mask >= 0; mask-- {
			if bits.OnesCount(uint(mask)) == n && !yield(masked(l, mask)) {
				return
			}
		}
	}
}

// masked returns the elements whose bits are in a mask. The highest bit is that of the first one: a greater mask comes first.
func masked(l []int, mask int) []int {
	var out []int
	for i, x := range l {
		if mask>>(len(l)-1-i)&1 == 1 {
			out = append(out, x)
		}
	}
	return out
}

// Bound returns an energy that no choice of places exceeds.
func Bound(p Plan, groups [][]int, n int) (int, api.Errno) {
	count := len(p.Places)
	if e := check.First(checkExact(p), checkGroups(groups, count), check.Range(n, 0, count)); e != api.OK {
		return 0, e
	}
	m := planModel(p)
	sums := append([]int{0}, slices.Repeat([]int{none}, count)...) // by the number of places, over the groups so far
	for _, group := range groups {
		var most []int // by the number of places of the group
		for c := range len(group) + 1 {
			_, energy := bestOf(p, m, group, c)
			most = append(most, energy)
		}
		sums = added(sums, most)
	}
	if sums[n] == none {
		return 0, api.ErrInfeasible
	}
	return sums[n], api.OK
}

// checkGroups returns the first error of groups that have each of so many indices once, or OK.
func checkGroups(groups [][]int, count int) api.Errno {
	grouped := map[int]bool{}
	for _, group := range groups {
		for _, index := range group {
			if index < 0 || index >= count {
				return api.ErrUnknown
			}
			if grouped[index] {
				return api.ErrTwice
			}
			grouped[index] = true
		}
	}
	if len(grouped) < count {
		return api.ErrShape
	}
	return api.OK
}

// added returns the greatest sums of an energy of each list, by the sum of their indices: no group has more places than are left.
func added(sums, more []int) []int {
	out := slices.Repeat([]int{none}, len(sums))
	for i, a := range sums {
		for j, b := range more {
			if a != none && b != none {
				out[i+j] = max(out[i+j], a+b)
			}
		}
	}
	return out
}
