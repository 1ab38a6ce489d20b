package wake_test

import (
	"math"
	"math/rand"
	"slices"
	"testing"

	"nacelle/api"
	"nacelle/site"
	"nacelle/wake"
)

func TestP25OneOfTwoIsInTheWake(t *testing.T) {
	r := rand.New(rand.NewSource(11))
	for range 200 {
		f := randomFarm(r, 2+r.Intn(6))
		for sector := range 8 {
			rows, _ := wake.Wakes(f.Site, f.Wake, sector)
			order, _ := wake.Order(f.Site, sector)
			for j := range rows {
				for i := range rows {
					check(t, "both are in the wake", rows[i][j] > 0 && rows[j][i] > 0, false)
					if rows[j][i] > 0 {
						check(t, "the order", slices.Index(order, i) < slices.Index(order, j), true)
					}
				}
			}
		}
	}
}

func TestP25RulesAreOrdered(t *testing.T) {
	r := rand.New(rand.NewSource(12))
	for range 200 {
		f := randomFarm(r, 1+r.Intn(8))
		for sector := range 8 {
			var by [3][]int
			for i, rule := range rules {
				f.Wake.Rule = rule
				by[i], _ = wake.Combined(f.Site, f.Wake, sector)
			}
			for j := range f.Site.Turbines {
				check(t, "greatest, squares, sum", by[0][j] <= by[1][j] && by[1][j] <= by[2][j] && by[2][j] <= wake.Full, true)
			}
		}
	}
}

func TestP25MoreTurbinesTakeMore(t *testing.T) {
	r := rand.New(rand.NewSource(13))
	for range 100 {
		f := randomFarm(r, 2+r.Intn(6))
		fewer := f
		last := len(f.Site.Turbines) - 1
		fewer.Site.Turbines = f.Site.Turbines[:last]
		for sector := range 8 {
			speed := r.Intn(51)
			more, _ := wake.Powers(f, sector, speed)
			before, _ := wake.Powers(fewer, sector, speed)
			for j := range before {
				check(t, "the power of another one", more[j] <= before[j], true)
			}
		}
	}
}

func TestP25EnergyTurnsAndShifts(t *testing.T) {
	r := rand.New(rand.NewSource(14))
	for range 100 {
		f := randomFarm(r, r.Intn(9))
		interval, _ := wake.Interval(f)
		for quarters := range 4 {
			turned := f
			turned.Site, _ = site.TurnSite(f.Site, quarters)
			turned.Rose, _ = site.TurnRose(f.Rose, quarters)
			got, e := wake.Interval(turned)
			check(t, "turned", e, api.OK)
			check(t, "turned", got, interval)
		}
		shifted := f
		shifted.Site, _ = site.ShiftSite(f.Site, at(r.Intn(1900)-950, r.Intn(1900)-950))
		got, e := wake.Interval(shifted)
		check(t, "shifted", e, api.OK)
		check(t, "shifted", got, interval)
		free, _ := wake.Free(f)
		check(t, "between nothing and the free energy", 0 <= interval[0] && interval[0] <= min(free, interval[1]), true)
	}
}

func TestP25MovesGoBack(t *testing.T) {
	r := rand.New(rand.NewSource(15))
	for range 100 {
		f := randomFarm(r, 2+r.Intn(6))
		i := r.Intn(len(f.Site.Turbines))
		to := randomPlaces(r, 1)[0]
		there, e := wake.Move(f, i, to)
		if e != api.OK {
			continue
		}
		after := f
		after.Site.Turbines = slices.Clone(f.Site.Turbines)
		after.Site.Turbines[i].At = to
		back, e := wake.Move(after, i, f.Site.Turbines[i].At)
		check(t, "the move back", e, api.OK)
		check(t, "there and back", there+back, 0)
		last := len(f.Site.Turbines) - 1
		fewer := f
		fewer.Site.Turbines = f.Site.Turbines[:last]
		gain, _ := wake.Gain(fewer, f.Site.Turbines[last])
		with, _ := wake.Energy(f)
		without, _ := wake.Energy(fewer)
		check(t, "the gain", gain, with-without)
	}
}

func TestP25BoundsHold(t *testing.T) {
	r := rand.New(rand.NewSource(16))
	for range 100 {
		p := randomPlan(r, 1+r.Intn(7))
		m := len(p.Places)
		coarse := [][]int{r.Perm(m)}
		var finest [][]int
		for i := range m {
			finest = append(finest, []int{i})
		}
		cut := r.Intn(m + 1)
		finer := [][]int{coarse[0][:cut], coarse[0][cut:]}
		for n := range m + 1 {
			_, best, e := wake.Best(p, n)
			whole, e1 := wake.Bound(p, coarse, n)
			check(t, "the bound of one group", e1, e)
			check(t, "the bound of one group", whole, best)
			two, e2 := wake.Bound(p, finer, n)
			most, e3 := wake.Bound(p, finest, n)
			check(t, "the bound of the finest groups", e3, api.OK)
			if e == api.OK {
				check(t, "the bound of finer groups", e2, api.OK)
			}
			check(t, "bounds rise", whole <= two && two <= most, true)
		}
	}
}

func TestP25CurvesComeBack(t *testing.T) {
	r := rand.New(rand.NewSource(17))
	for range 100 {
		k := randomCurve(r)
		text, e := wake.Print(k)
		check(t, "Print", e, api.OK)
		back, e := wake.Parse(text)
		check(t, "Parse", e, api.OK)
		checkSame(t, "a curve from its text", back, k)
		again, _ := wake.Print(back)
		check(t, "a text from its curve", again, text)
	}
}

// TestP1AnyArguments: no function panics, whatever its arguments are.
func TestP1AnyArguments(t *testing.T) {
	numbers := []int{math.MinInt, -1, 0, 1, 2, 8, 64, math.MaxInt}
	farms := []wake.Farm{{}, farm(), {Site: s()}, {Site: s(), Wake: w()}}
	for _, f := range farms {
		for _, a := range numbers {
			for _, b := range numbers {
				wake.Relation(f.Site, a, a, b)
				wake.Deficit(f.Wake, a, b)
				wake.Speeds(f.Site, f.Wake, a, b)
				wake.Powers(f, a, b)
				wake.Move(f, a, at(b, a))
				wake.Gain(f, site.Turbine{Name: "x", At: at(a, b)})
				wake.Improve(f, []api.Point{at(a, b), at(b, a)})
				p := wake.Plan{Places: []api.Point{at(a, b)}, Least: b, Wake: f.Wake, Curve: f.Curve, Rose: f.Rose}
				wake.Best(p, a)
				wake.Bound(p, [][]int{{a}, {b}}, a)
			}
			wake.Value(f.Curve, a)
		}
		wake.Best(wake.Plan{}, 0)
		wake.Bound(wake.Plan{}, nil, 0)
	}
}
