package wake

import (
	"slices"

	"nacelle/api"
	"nacelle/check"
	"nacelle/list"
	"nacelle/ratio"
	"nacelle/site"
)

// Farm is a site with a wake, a curve and a rose.
type Farm struct {
	Site  site.Site
	Wake  Wake
	Curve Curve
	Rose  site.Rose
}

// CheckFarm returns the first error of a farm, or OK.
func CheckFarm(f Farm) api.Errno {
	return check.First(site.CheckSite(f.Site), checkAir(f.Wake, f.Curve, f.Rose))
}

// checkAir returns the first error of a wake, a curve and a rose, or OK.
func checkAir(w Wake, c Curve, r site.Rose) api.Errno {
	return check.First(CheckWake(w), CheckCurve(c), site.CheckRose(r))
}

// Powers returns the power of each turbine of a farm.
func Powers(f Farm, sector, speed int) ([]int, api.Errno) {
	over, e := shadowOf(f.Wake, sector)
	if e := check.First(CheckFarm(f), e, checkSpeed(speed)); e != api.OK {
		return nil, e
	}
	if speed >= f.Curve.CutOut {
		return make([]int, len(f.Site.Turbines)), api.OK
	}
	speeds := over.speeds(placesOf(f.Site), speed)
	return list.Changed(speeds, func(s int) int { return value(f.Curve, s) }), api.OK
}

// loss is the combined deficit of a turbine in the wind of a sector.
type loss struct {
	sector  int
	deficit int
}

// model is what the energy of turbines depends on, beside their places.
type model struct {
	shadows []shadow       // of the sectors from which the wind blew
	worth   func(loss) int // the energy of a turbine with a combined deficit, by the speeds of the rose
}

// modelOf returns the model of a wake, a curve and a rose that were checked. All speeds of the rose are higher by more.
func modelOf(w Wake, c Curve, r site.Rose, more int) model {
	var out model
	for sector, quarters := range r {
		if quarters != [api.MaxSpeed + 1]int{} {
			over, _ := shadowOf(w, sector)
			out.shadows = append(out.shadows, over)
		}
	}
	out.worth = remembered(func(l loss) int {
		sum := 0
		for speed := range c.CutOut {
			if quarters := r[l.sector][speed]; quarters > 0 {
				sum += quarters * value(c, (speed+more)*(Full-l.deficit))
			}
		}
		return sum
	})
	return out
}

// farmModel returns the model of a farm that was checked.
func farmModel(f Farm) model { return modelOf(f.Wake, f.Curve, f.Rose, 0) }

// remembered returns a function that computes each result only once: many turbines have the same deficit.
func remembered[K comparable, V any](compute func(K) V) func(K) V {
	known := map[K]V{}
	return func(k K) V {
		v, ok := known[k]
		if !ok {
			v = compute(k)
			known[k] = v
		}
		return v
	}
}

// gained returns the energy of turbines in the wind of a shadow, by the totals of their deficits.
func (m model) gained(s shadow, totals []int) int {
	sum := 0
	for _, total := range totals {
		sum += m.worth(loss{sector: s.sector, deficit: s.rule.combined(total)})
	}
	return sum
}

// totals returns the totals of the deficits at some places, for each shadow.
func (m model) totals(places []api.Point) [][]int {
	return list.Changed(m.shadows, func(s shadow) []int { return s.totals(places) })
}

// energy returns the energy of turbines at some places.
func (m model) energy(places []api.Point) int {
	sum := 0
	for _, s := range m.shadows {
		sum += m.gained(s, s.totals(places))
	}
	return sum
}

// energyWith returns the energy of turbines at some places, with these totals, and at one place more.
func (m model) energyWith(places []api.Point, totals [][]int, more api.Point) int {
	sum := 0
	for i, s := range m.shadows {
		sum += m.gained(s, s.joined(places, totals[i], more))
	}
	return sum
}

// free returns the energy of n turbines without wakes.
func (m model) free(n int) int {
	sum := 0
	for _, s := range m.shadows {
		sum += n * m.worth(loss{sector: s.sector})
	}
	return sum
}

// Energy returns the energy of a farm by its rose.
func Energy(f Farm) (int, api.Errno) {
	if e := CheckFarm(f); e != api.OK {
		return 0, e
	}
	return farmModel(f).energy(placesOf(f.Site)), api.OK
}

// Interval returns the least and the greatest energy of a farm.
func Interval(f Farm) ([2]int, api.Errno) {
	least, e := Energy(f)
	if e != api.OK {
		return [2]int{}, e
	}
	greatest := modelOf(f.Wake, f.Curve, f.Rose, 1).energy(placesOf(f.Site))
	return [2]int{least, greatest}, api.OK
}

// Free returns the energy of a farm without wakes.
func Free(f Farm) (int, api.Errno) {
	if e := CheckFarm(f); e != api.OK {
		return 0, e
	}
	return farmModel(f).free(len(f.Site.Turbines)), api.OK
}

// Loss returns the share of the energy that wakes take.
func Loss(f Farm) (api.Ratio, api.Errno) {
	energy, _ := Energy(f)
	free, e := Free(f)
	if e != api.OK {
		return api.Ratio{}, e
	}
	if free == 0 {
		return api.Ratio{}, api.ErrZero
	}
	return ratio.Of(free-energy, free), api.OK
}

// Gain returns by how much a turbine more raises the energy.
func Gain(f Farm, t site.Turbine) (int, api.Errno) {
	return raised(f, func(s site.Site) site.Site {
		s.Turbines = append(slices.Clone(s.Turbines), t)
		return s
	})
}

// Move returns by how much a move raises the energy.
func Move(f Farm, turbine int, to api.Point) (int, api.Errno) {
	if e := check.First(CheckFarm(f), checkTurbine(f.Site, turbine)); e != api.OK {
		return 0, e
	}
	return raised(f, func(s site.Site) site.Site { return moved(s, turbine, to) })
}

// raised returns by how much a change of its site raises the energy of a farm, or the first error of the farm and of its new site.
func raised(f Farm, change func(site.Site) site.Site) (int, api.Errno) {
	if e := CheckFarm(f); e != api.OK {
		return 0, e
	}
	after := change(f.Site)
	if e := site.CheckSite(after); e != api.OK {
		return 0, e
	}
	m := farmModel(f)
	return m.energy(placesOf(after)) - m.energy(placesOf(f.Site)), api.OK
}

// moved returns a copy of a site with a turbine at another place.
func moved(s site.Site, turbine int, to api.Point) site.Site {
	s.Turbines = slices.Clone(s.Turbines)
	s.Turbines[turbine].At = to
	return s
}
