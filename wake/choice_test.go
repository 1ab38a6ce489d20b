package wake_test

import (
	"math"
	"math/rand"
	"slices"
	"testing"

	"nacelle/api"
	"nacelle/site"
	"nacelle/wake"
)

func TestP24CheckPlan(t *testing.T) {
	for _, row := range []struct {
		name string
		f    func(p *wake.Plan)
		e    api.Errno
	}{
		{"as it is", func(p *wake.Plan) {}, api.OK},
		{"no places", func(p *wake.Plan) { p.Places = nil }, api.OK},
		{"too near", func(p *wake.Plan) { p.Least = 1000 }, api.OK},
		{"64 places", func(p *wake.Plan) { p.Places = line(64) }, api.OK},
		{"65 places", func(p *wake.Plan) { p.Places = line(65) }, api.ErrMany},
		{"65 equal places", func(p *wake.Plan) { p.Places = make([]api.Point, 65) }, api.ErrMany},
		{"x", func(p *wake.Plan) { p.Places[1].X = 1001 }, api.ErrRange},
		{"y", func(p *wake.Plan) { p.Places[1].Y = -1001 }, api.ErrRange},
		{"the edge", func(p *wake.Plan) { p.Places[1] = at(-1000, 1000) }, api.OK},
		{"extreme places", func(p *wake.Plan) { p.Places[0] = at(math.MinInt, math.MaxInt) }, api.ErrRange},
		{"twice", func(p *wake.Plan) { p.Places[2] = p.Places[0] }, api.ErrTwice},
		{"twice before a range", func(p *wake.Plan) { p.Places[1], p.Places[2].X = p.Places[0], 1001 }, api.ErrTwice},
		{"range before twice", func(p *wake.Plan) { p.Places[1].X, p.Places[2] = 1001, p.Places[0] }, api.ErrRange},
		{"twice a place that is none", func(p *wake.Plan) { p.Places[0], p.Places[1] = at(1001, 0), at(1001, 0) }, api.ErrRange},
		{"twice before the least distance", func(p *wake.Plan) { p.Places[1], p.Least = p.Places[0], 0 }, api.ErrTwice},
		{"least distance 0", func(p *wake.Plan) { p.Least = 0 }, api.ErrRange},
		{"least distance 1001", func(p *wake.Plan) { p.Least = 1001 }, api.ErrRange},
		{"least distance before wake", func(p *wake.Plan) { p.Least, p.Wake.Rule = -1, "" }, api.ErrRange},
		{"wake", func(p *wake.Plan) { p.Wake.Rule = "" }, api.ErrKind},
		{"wake before curve", func(p *wake.Plan) { p.Wake.Rule, p.Curve.Powers = "", nil }, api.ErrKind},
		{"curve", func(p *wake.Plan) { p.Curve.Powers = nil }, api.ErrShape},
		{"curve before rose", func(p *wake.Plan) { p.Curve.Powers, p.Rose[0][0] = nil, -1 }, api.ErrShape},
		{"rose", func(p *wake.Plan) { p.Rose[3][3] = 40001 }, api.ErrRange},
	} {
		p := plan()
		row.f(&p)
		check(t, row.name, wake.CheckPlan(p), row.e)
		if row.e != api.OK {
			l, n, e := wake.Best(p, 100)
			check(t, row.name+": Best", e, row.e)
			checkZero(t, row.name+": Best", l, n)
			n, e = wake.Bound(p, [][]int{{100}}, 100)
			check(t, row.name+": Bound", e, row.e)
			checkZero(t, row.name+": Bound", n)
		}
	}
}

func TestP24Best(t *testing.T) {
	for _, row := range []struct {
		n, energy int
		want      []int
	}{{0, 0, nil}, {1, 153600, []int{0}}, {2, 307200, []int{0, 2}}, {3, 358400, []int{0, 1, 2}}} {
		l, energy, e := wake.Best(plan(), row.n)
		check(t, "Best", e, api.OK)
		checkList(t, "Best", l, row.want)
		check(t, "Best", energy, row.energy)
	}
	near := plan()
	near.Least = 2
	l, energy, e := wake.Best(near, 2)
	check(t, "Best of places that are near", e, api.ErrInfeasible)
	checkZero(t, "Best of places that are near", l, energy)
	near.Places = append(near.Places, at(0, 3), at(2, 2))
	l, _, e = wake.Best(near, 2)
	check(t, "Best of places with the least distance", e, api.OK)
	checkList(t, "Best of places with the least distance", l, []int{0, 4})
	eight := plan()
	eight.Places = line(8)
	l, energy, _ = wake.Best(eight, 3)
	checkList(t, "Best of equal choices", l, []int{0, 1, 2})
	check(t, "Best of equal choices", energy, 3*153600)
	eight.Rose = site.Rose{}
	l, energy, e = wake.Best(eight, 4)
	check(t, "Best without wind", e, api.OK)
	checkList(t, "Best without wind", l, []int{0, 1, 2, 3})
	check(t, "Best without wind", energy, 0)
}

func TestP24BestErrors(t *testing.T) {
	for _, row := range []struct {
		places []api.Point
		n      int
		e      api.Errno
	}{
		{line(9), -1, api.ErrLimit}, {line(64), 1, api.ErrLimit}, {line(65), -1, api.ErrMany}, {line(8), 9, api.ErrRange}, {line(8), -1, api.ErrRange}, {line(3), 4, api.ErrRange}, {line(8), math.MinInt, api.ErrRange}, {line(8), math.MaxInt, api.ErrRange}, {nil, 1, api.ErrRange}, {nil, 0, api.OK}, {line(8), 8, api.OK},
	} {
		p := plan()
		p.Places = row.places
		l, energy, e := wake.Best(p, row.n)
		check(t, "Best", e, row.e)
		if e != api.OK {
			checkZero(t, "Best", l, energy)
		}
		_, e = wake.Bound(p, [][]int{[]int{0, 1, 2, 3, 4, 5, 6, 7}[:min(8, len(row.places))]}, row.n)
		check(t, "Bound", e, row.e)
	}
}

func TestP24BestOtherwise(t *testing.T) {
	r := rand.New(rand.NewSource(4))
	for range 60 {
		p := randomPlan(r, 1+r.Intn(6))
		n := r.Intn(len(p.Places) + 1)
		var want []int
		most := -1
		for mask := range 1 << len(p.Places) {
			var choice []int
			for i := range p.Places {
				if mask>>i&1 == 1 {
					choice = append(choice, i)
				}
			}
			f := built(p, choice)
			if len(choice) != n || site.CheckSite(f.Site) != api.OK {
				continue
			}
			if energy := slowEnergy(f, 0); energy > most || energy == most && slices.Compare(choice, want) < 0 {
				want, most = choice, energy
			}
		}
		l, energy, e := wake.Best(p, n)
		if most < 0 {
			check(t, "Best of no choice", e, api.ErrInfeasible)
			continue
		}
		check(t, "Best", e, api.OK)
		checkList(t, "Best", l, want)
		check(t, "Best", energy, most)
	}
}

func TestP24Bound(t *testing.T) {
	for _, row := range []struct {
		groups  [][]int
		n, want int
	}{
		{[][]int{{0, 1}, {2}}, 2, 307200}, {[][]int{{0, 1}, {2}}, 3, 358400}, {[][]int{{0, 1, 2}}, 2, 307200}, {[][]int{{2, 1, 0}}, 3, 358400}, {[][]int{{2}, {1}, {0}}, 3, 460800}, {[][]int{{2}, {}, {0}, nil, {1}}, 3, 460800}, {[][]int{{0, 1}, {2}}, 0, 0}, {[][]int{{0, 1}, {2}}, 1, 153600},
	} {
		n, e := wake.Bound(plan(), row.groups, row.n)
		check(t, "Bound", e, api.OK)
		check(t, "Bound", n, row.want)
	}
	none := plan()
	none.Places = nil
	for _, groups := range [][][]int{nil, {nil}, {{}, {}}} {
		n, e := wake.Bound(none, groups, 0)
		check(t, "Bound of nothing", e, api.OK)
		check(t, "Bound of nothing", n, 0)
	}
	near := plan()
	near.Least = 2
	n, e := wake.Bound(near, [][]int{{0, 1}, {2}}, 2)
	check(t, "Bound of places that are near in one group", e, api.OK)
	check(t, "Bound of places that are near in one group", n, 307200)
	n, e = wake.Bound(near, [][]int{{0, 1}, {2}}, 3)
	check(t, "Bound of too many places", e, api.ErrInfeasible)
	checkZero(t, "Bound of too many places", n)
	_, e = wake.Bound(near, [][]int{{0, 1, 2}}, 2)
	check(t, "Bound of no choice", e, api.ErrInfeasible)
}

func TestP24BoundErrors(t *testing.T) {
	for _, row := range []struct {
		groups [][]int
		n      int
		e      api.Errno
	}{
		{[][]int{{0, 1}, {3}}, 9, api.ErrUnknown}, {[][]int{{0, -1}, {0}}, 9, api.ErrUnknown}, {[][]int{{math.MinInt}}, 9, api.ErrUnknown}, {[][]int{{math.MaxInt}}, 9, api.ErrUnknown},
		{[][]int{{0, 1}, {1, 3}}, 9, api.ErrTwice}, {[][]int{{0, 0}}, 9, api.ErrTwice}, {[][]int{{0, 1}, {2}, {3, 0}}, 9, api.ErrUnknown}, {[][]int{{0, 1}, {2}, {0}}, 9, api.ErrTwice},
		{nil, 9, api.ErrShape}, {[][]int{{0}, {2}}, 9, api.ErrShape}, {[][]int{{}, {}}, -1, api.ErrShape}, {[][]int{{0, 1, 2}}, 4, api.ErrRange}, {[][]int{{0, 1, 2}}, -1, api.ErrRange}, {[][]int{{0, 1, 2}}, math.MaxInt, api.ErrRange},
	} {
		n, e := wake.Bound(plan(), row.groups, row.n)
		check(t, "Bound", e, row.e)
		checkZero(t, "Bound", n)
	}
	p := plan()
	p.Places = line(9)
	_, e := wake.Bound(p, [][]int{{9}}, -1)
	check(t, "Bound of nine places", e, api.ErrLimit)
}

func TestP24BoundOtherwise(t *testing.T) {
	r := rand.New(rand.NewSource(5))
	for range 60 {
		p := randomPlan(r, 1+r.Intn(6))
		m := len(p.Places)
		groups := make([][]int, 1+r.Intn(3))
		for _, i := range r.Perm(m) {
			g := r.Intn(len(groups))
			groups[g] = append(groups[g], i)
		}
		want := slices.Repeat([]int{-1}, m+1)
		for mask := range 1 << m { // a choice of one number for each group is reached by the choices of its places
			sum, count, permitted := 0, 0, true
			for _, group := range groups {
				var choice []int
				for _, i := range group {
					if mask>>i&1 == 1 {
						choice = append(choice, i)
					}
				}
				f := built(p, choice)
				permitted = permitted && site.CheckSite(f.Site) == api.OK
				if permitted {
					sum += slowEnergy(f, 0)
				}
				count += len(choice)
			}
			if permitted {
				want[count] = max(want[count], sum)
			}
		}
		for n := range m + 1 {
			bound, e := wake.Bound(p, groups, n)
			if want[n] < 0 {
				check(t, "Bound of no choice", e, api.ErrInfeasible)
				continue
			}
			check(t, "Bound", e, api.OK)
			check(t, "Bound", bound, want[n])
		}
	}
}

// slope is a farm with three turbines in a row, whose powers are 100 times their speeds: 1024, 512 and 256 of 256.
func slope() wake.Farm {
	return wake.Farm{Site: row(3), Wake: w(), Curve: wake.Curve{Powers: []int{0, 100, 200, 300, 400}, CutOut: 5}, Rose: rose()}
}

func TestP24Improve(t *testing.T) {
	for _, row := range []struct {
		name    string
		places  []api.Point
		turbine int
		to      api.Point
		want    int
	}{
		{"the best turbine", []api.Point{at(9, 9)}, 1, at(9, 9), 204800}, // 153600 by the other ones
		{"the first of two equal turbines", []api.Point{at(0, -3)}, 1, at(0, -3), 102400},
		{"the first of two equal places", []api.Point{at(9, 9), at(-9, 9)}, 1, at(9, 9), 204800},
		{"the better place", []api.Point{at(0, -3), at(9, 9)}, 1, at(9, 9), 204800},
		{"places that are taken", []api.Point{at(0, 0), at(0, -1), at(0, -2), at(0, -3)}, 1, at(0, -3), 102400},
		{"the same place twice", []api.Point{at(0, -3), at(0, -3)}, 1, at(0, -3), 102400},
	} {
		f := slope()
		out, n, e := wake.Improve(f, row.places)
		check(t, row.name, e, api.OK)
		check(t, row.name, n, row.want)
		want := slope().Site
		want.Turbines[row.turbine].At = row.to
		checkSame(t, row.name, out, want)
		for i := range out.Turbines {
			out.Turbines[i].Name = "x"
		}
		checkSame(t, row.name+", the farm", f, slope())
	}
}

// TestP24ImproveNear: a move to a place that is too near to another turbine is none.
func TestP24ImproveNear(t *testing.T) {
	f := slope()
	f.Wake = wake.Wake{Rule: "sum", Deficits: []int{128, 128, 128}, Widths: []int{0, 0, 0}}
	f.Site = site.Site{Name: "n", Least: 3, Turbines: []site.Turbine{{Name: "a"}, {Name: "b", At: at(0, -3)}}}
	_, _, e := wake.Improve(f, []api.Point{at(2, -2)})
	check(t, "Improve too near", e, api.ErrNone)
	out, n, e := wake.Improve(f, []api.Point{at(2, -2), at(2, -3)})
	check(t, "Improve", e, api.OK)
	check(t, "Improve", n, 102400)
	f.Site.Turbines[1].At = at(2, -3)
	checkSame(t, "Improve", out, f.Site)
}

func TestP24ImproveErrors(t *testing.T) {
	for _, row := range []struct {
		f      wake.Farm
		places []api.Point
		e      api.Errno
	}{
		{wake.Farm{}, make([]api.Point, 257), api.ErrName}, {farm(), append(make([]api.Point, 256), at(1001, 0)), api.ErrMany}, {farm(), make([]api.Point, 257), api.ErrMany}, {farm(), append(make([]api.Point, 255), at(9, 9)), api.OK},
		{farm(), []api.Point{at(9, 9), at(1001, 0)}, api.ErrRange}, {farm(), []api.Point{at(9, 9), at(0, math.MinInt)}, api.ErrRange}, {farm(), nil, api.ErrNone}, {farm(), []api.Point{at(0, 1), at(0, 2)}, api.ErrNone}, {farm(), []api.Point{at(1, 1)}, api.ErrNone},
		{wake.Farm{Site: row(0), Wake: w(), Curve: c(), Rose: rose()}, []api.Point{at(9, 9)}, api.ErrNone}, {wake.Farm{Site: s(), Wake: w(), Curve: c()}, []api.Point{at(9, 9)}, api.ErrNone},
	} {
		out, n, e := wake.Improve(row.f, row.places)
		check(t, "Improve", e, row.e)
		if e != api.OK {
			checkZero(t, "Improve", out, n)
		}
	}
}

func TestP24ImproveOtherwise(t *testing.T) {
	r := rand.New(rand.NewSource(6))
	for range 60 {
		f := randomFarm(r, 1+r.Intn(5))
		places := randomPlaces(r, r.Intn(6))
		want, most := site.Site{}, 0
		for i := range f.Site.Turbines {
			for _, p := range places {
				n, e := wake.Move(f, i, p)
				if e == api.OK && n > most {
					want, most = f.Site, n
					want.Turbines = slices.Clone(want.Turbines)
					want.Turbines[i].At = p
				}
			}
		}
		out, n, e := wake.Improve(f, places)
		check(t, "Improve", n, most)
		checkSame(t, "Improve", out, want)
		check(t, "Improve", e == api.OK, most > 0)
		check(t, "Improve", e == api.ErrNone, most == 0)
	}
}

// TestP24ImproveFar: also the largest search ends.
func TestP24ImproveFar(t *testing.T) {
	r := rand.New(rand.NewSource(7))
	f := wake.Farm{Site: row(64), Wake: wake.Wake{Rule: "squares", Deficits: slices.Repeat([]int{50}, 32), Widths: slices.Repeat([]int{100}, 32)}, Curve: randomCurve(r)}
	f.Curve.CutOut = 51
	for sector := range f.Rose {
		for speed := range f.Rose[sector] {
			f.Rose[sector][speed] = 1 + r.Intn(40000)
		}
	}
	var places []api.Point
	for i := range 256 {
		places = append(places, at(3*i, i%7))
	}
	out, n, e := wake.Improve(f, places)
	check(t, "Improve", e, api.OK)
	before, _ := wake.Energy(f)
	f.Site = out
	after, _ := wake.Energy(f)
	check(t, "Improve", n, after-before)
}

func TestP24Memory(t *testing.T) {
	p, groups, places := plan(), [][]int{{2, 0}, {1}}, []api.Point{at(9, 9), at(0, 3)}
	wake.Best(p, 2)
	wake.Bound(p, groups, 2)
	wake.Improve(farm(), places)
	checkSame(t, "the plan", p, plan())
	checkSame(t, "the groups", groups, [][]int{{2, 0}, {1}})
	checkSame(t, "the places", places, []api.Point{at(9, 9), at(0, 3)})
}
