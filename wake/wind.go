package wake

import (
	"cmp"
	"iter"
	"slices"

	"nacelle/api"
	"nacelle/check"
	"nacelle/list"
	"nacelle/site"
)

// wind is the wind of a sector: its step is where it blows to.
type wind struct {
	step api.Point
}

// windOf returns the wind of a sector.
func windOf(sector int) (wind, api.Errno) {
	step, e := site.Step(sector)
	return wind{step: step}, e
}

// along returns how far down the wind a place lies: a diagonal step counts twice.
func (w wind) along(p api.Point) int { return p.X*w.step.X + p.Y*w.step.Y }

// relation returns the steps and the offset of a place i to a place j.
func (w wind) relation(i, j api.Point) (int, int) {
	d := api.Point{X: j.X - i.X, Y: j.Y - i.Y}
	steps := w.along(d)
	if w.step.X != 0 && w.step.Y != 0 {
		steps >>= 1 // a shift rounds down below 0, too; a quotient would not
	}
	offset := d.X*w.step.Y - d.Y*w.step.X
	return steps, max(offset, -offset)
}

// Relation returns how many steps a turbine stands behind another one, and its offset.
func Relation(s site.Site, sector, i, j int) (int, int, api.Errno) {
	w, e := windOf(sector)
	if e := check.First(site.CheckSite(s), e, checkTurbine(s, i), checkTurbine(s, j)); e != api.OK {
		return 0, 0, e
	}
	if i == j {
		return 0, 0, api.ErrTwice
	}
	steps, offset := w.relation(s.Turbines[i].At, s.Turbines[j].At)
	return steps, offset, api.OK
}

// checkTurbine returns ErrUnknown if a site has no turbine with an index.
func checkTurbine(s site.Site, index int) api.Errno {
	if index < 0 || index >= len(s.Turbines) {
		return api.ErrUnknown
	}
	return api.OK
}

// standing is how far down the wind a turbine stands.
type standing struct {
	turbine int
	along   int
}

// compare compares two turbines from windward to leeward; those beside one another by their indices.
func (a standing) compare(b standing) int {
	return cmp.Or(cmp.Compare(a.along, b.along), cmp.Compare(a.turbine, b.turbine))
}

// Order returns the turbines from windward to leeward.
func Order(s site.Site, sector int) ([]int, api.Errno) {
	w, e := windOf(sector)
	if e := check.First(site.CheckSite(s), e); e != api.OK {
		return nil, e
	}
	var row []standing
	for i, t := range s.Turbines {
		row = append(row, standing{turbine: i, along: w.along(t.At)})
	}
	slices.SortFunc(row, standing.compare)
	return list.Changed(row, func(a standing) int { return a.turbine }), api.OK
}

// shadow is the wind of a sector with what it leaves behind turbines.
type shadow struct {
	sector int
	wind   wind
	wake   Wake
	rule   rule
}

// shadowOf returns the shadow of a wake that was checked, in a sector.
func shadowOf(w Wake, sector int) (shadow, api.Errno) {
	from, e := windOf(sector)
	by, _ := ruleOf(w.Rule)
	return shadow{sector: sector, wind: from, wake: w, rule: by}, e
}

// checkedShadow returns the shadow of a wake over a site, or the first error of a site, a wake and a sector.
func checkedShadow(s site.Site, w Wake, sector int) (shadow, api.Errno) {
	out, e := shadowOf(w, sector)
	return out, check.First(site.CheckSite(s), CheckWake(w), e)
}

// deficit returns the deficit that a turbine at j has by one at i.
func (s shadow) deficit(i, j api.Point) int {
	steps, offset := s.wind.relation(i, j)
	return deficit(s.wake, steps, offset)
}

// joined returns the totals of the deficits at some places when there is one more behind them.
func (s shadow) joined(places []api.Point, totals []int, more api.Point) []int {
	last := len(places)
	out := make([]int, last+1)
	copy(out, totals)
	for i, p := range places {
		out[i] = s.rule.take(out[i], s.deficit(more, p))
		out[last] = s.rule.take(out[last], s.deficit(p, more))
	}
	return out
}

// totals returns the total of the deficits at each place by all other ones.
func (s shadow) totals(places []api.Point) []int {
	var out []int
	for i, p := range places {
		out = s.joined(places[:i], out, p)
	}
	return out
}

// combined returns the combined deficit at each place.
func (s shadow) combined(places []api.Point) []int {
	return list.Changed(s.totals(places), s.rule.combined)
}

// speeds returns the speed at each place, by a free speed.
func (s shadow) speeds(places []api.Point, speed int) []int {
	return list.Changed(s.combined(places), func(deficit int) int { return speed * (Full - deficit) })
}

// Wakes returns the deficit of each turbine by each other one.
func Wakes(s site.Site, w Wake, sector int) ([][]int, api.Errno) {
	over, e := checkedShadow(s, w, sector)
	if e != api.OK {
		return nil, e
	}
	places := placesOf(s)
	rows := list.Changed(places, func(api.Point) []int { return make([]int, len(places)) })
	for i, j := range pairs(len(places)) {
		rows[j][i] = over.deficit(places[i], places[j])
		rows[i][j] = over.deficit(places[j], places[i])
	}
	return rows, api.OK
}

// Combined returns the deficit of each turbine by all others.
func Combined(s site.Site, w Wake, sector int) ([]int, api.Errno) {
	over, e := checkedShadow(s, w, sector)
	if e != api.OK {
		return nil, e
	}
	return over.combined(placesOf(s)), api.OK
}

// Speeds returns the speed at each turbine.
func Speeds(s site.Site, w Wake, sector, speed int) ([]int, api.Errno) {
	over, e := checkedShadow(s, w, sector)
	if e := check.First(e, checkSpeed(speed)); e != api.OK {
		return nil, e
	}
	return over.speeds(placesOf(s), speed), api.OK
}

// checkSpeed returns ErrRange if a free speed is not in its range.
func checkSpeed(speed int) api.Errno { return check.Range(speed, 0, api.MaxSpeed) }

// placesOf returns where the turbines of a site stand.
func placesOf(s site.Site) []api.Point {
	return list.Changed(s.Turbines, func(t site.Turbine) api.Point { return t.At })
}

// pairs visits the indices of each pair of n things, the lesser one first.
func pairs(n int) iter.Seq2[int, int] {
	return func(yield func(int, int) bool) {
		for j := range n {
			for i := range j {
				if !yield(i, j) {
					return
				}
			}
		}
	}
}
