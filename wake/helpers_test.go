package wake_test

import (
	"fmt"
	"math"
	"math/rand"
	"reflect"
	"slices"
	"testing"

	"nacelle/api"
	"nacelle/site"
	"nacelle/wake"
)

// check reports a result that is not the expected one.
func check[T comparable](t *testing.T, what string, got, want T) {
	t.Helper()
	if got != want {
		t.Errorf("%s: got %v, want %v", what, got, want)
	}
}

// checkList reports a list that is not the expected one; empty lists are equal.
func checkList[T comparable](t *testing.T, what string, got, want []T) {
	t.Helper()
	if !slices.Equal(got, want) {
		t.Errorf("%s: got %v, want %v", what, got, want)
	}
}

// checkZero reports a result beside an error that is not the zero value.
func checkZero(t *testing.T, what string, results ...any) {
	t.Helper()
	for _, r := range results {
		v := reflect.ValueOf(r)
		if v.Kind() == reflect.Slice && v.Len() == 0 {
			continue
		}
		if v.IsValid() && !v.IsZero() {
			t.Errorf("%s: got %v beside an error", what, r)
		}
	}
}

// checkSame reports a value, such as an argument behind a call, that is not as it was.
func checkSame(t *testing.T, what string, got, want any) {
	t.Helper()
	if !reflect.DeepEqual(got, want) {
		t.Errorf("%s: got %v, want %v", what, got, want)
	}
}

func at(x, y int) api.Point { return api.Point{X: x, Y: y} }

// w, c, s and the rose are those of the chapter's examples.
func w() wake.Wake {
	return wake.Wake{Rule: "sum", Deficits: []int{128, 64}, Widths: []int{0, 1}}
}

func c() wake.Curve { return wake.Curve{Powers: []int{0, 0, 100, 300, 300}, CutOut: 5} }

func s() site.Site {
	return site.Site{Name: "s", Least: 1, Turbines: []site.Turbine{{Name: "a", At: at(0, 2)}, {Name: "b", At: at(0, 1)}, {Name: "c", At: at(1, 0)}}}
}

func rose() site.Rose {
	var r site.Rose
	r[0][4] = 2
	return r
}

func farm() wake.Farm { return wake.Farm{Site: s(), Wake: w(), Curve: c(), Rose: rose()} }

func plan() wake.Plan {
	return wake.Plan{Places: []api.Point{at(0, 2), at(0, 1), at(1, 1)}, Least: 1, Wake: w(), Curve: c(), Rose: rose()}
}

// row returns a site with n turbines in a row to the north, one apart.
func row(n int) site.Site {
	out := site.Site{Name: "row", Least: 1}
	for i := range n {
		out.Turbines = append(out.Turbines, site.Turbine{Name: fmt.Sprint("t", i), At: at(0, -i)})
	}
	return out
}

// line returns n places in a row to the east, two apart.
func line(n int) []api.Point {
	var out []api.Point
	for i := range n {
		out = append(out, at(2*i, 0))
	}
	return out
}

var rules = []string{"greatest", "squares", "sum"}

func randomWake(r *rand.Rand) wake.Wake {
	reach := 1 + r.Intn(8)
	out := wake.Wake{Rule: rules[r.Intn(3)]}
	for range reach {
		out.Deficits = append(out.Deficits, r.Intn(257))
		out.Widths = append(out.Widths, r.Intn(6))
	}
	slices.Sort(out.Deficits)
	slices.Reverse(out.Deficits)
	slices.Sort(out.Widths)
	return out
}

func randomCurve(r *rand.Rand) wake.Curve {
	out := wake.Curve{Powers: []int{0}, CutOut: 1 + r.Intn(51)}
	for range 1 + r.Intn(50) {
		out.Powers = append(out.Powers, r.Intn(100001))
	}
	slices.Sort(out.Powers)
	return out
}

func randomRose(r *rand.Rand) site.Rose {
	var out site.Rose
	for range 1 + r.Intn(40) {
		out[r.Intn(8)][r.Intn(51)] = r.Intn(40001)
	}
	return out
}

// randomPlaces returns n different places near one another.
func randomPlaces(r *rand.Rand, n int) []api.Point {
	var out []api.Point
	for len(out) < n {
		if p := at(r.Intn(7)-3, r.Intn(7)-3); !slices.Contains(out, p) {
			out = append(out, p)
		}
	}
	return out
}

func randomFarm(r *rand.Rand, n int) wake.Farm {
	layout := site.Site{Name: "f", Least: 1}
	for i, p := range randomPlaces(r, n) {
		layout.Turbines = append(layout.Turbines, site.Turbine{Name: fmt.Sprint("t", i), At: p})
	}
	return wake.Farm{Site: layout, Wake: randomWake(r), Curve: randomCurve(r), Rose: randomRose(r)}
}

func randomPlan(r *rand.Rand, n int) wake.Plan {
	return wake.Plan{Places: randomPlaces(r, n), Least: 1 + r.Intn(3), Wake: randomWake(r), Curve: randomCurve(r), Rose: randomRose(r)}
}

// built returns the farm of a choice of the places of a plan.
func built(p wake.Plan, choice []int) wake.Farm {
	layout := site.Site{Name: "f", Least: p.Least}
	for _, i := range choice {
		layout.Turbines = append(layout.Turbines, site.Turbine{Name: fmt.Sprint("t", i), At: p.Places[i]})
	}
	return wake.Farm{Site: layout, Wake: p.Wake, Curve: p.Curve, Rose: p.Rose}
}

// slowCombined finds the combined deficits from the definitions alone.
func slowCombined(layout site.Site, k wake.Wake, sector int) []int {
	u, _ := site.Step(sector)
	var out []int
	for j, b := range layout.Turbines {
		var deficits []int
		for i, a := range layout.Turbines {
			if i == j {
				continue
			}
			x, y := b.At.X-a.At.X, b.At.Y-a.At.Y
			steps := x*u.X + y*u.Y
			if sector%2 == 1 {
				steps = int(math.Floor(float64(steps) / 2))
			}
			offset := x*u.Y - y*u.X
			if offset < 0 {
				offset = -offset
			}
			if 1 <= steps && steps <= len(k.Deficits) && offset <= k.Widths[steps-1] {
				deficits = append(deficits, k.Deficits[steps-1])
			}
		}
		out = append(out, slowCombination(k.Rule, deficits))
	}
	return out
}

func slowCombination(rule string, deficits []int) int {
	sum, squares, greatest, root := 0, 0, 0, 0
	for _, d := range deficits {
		sum += d
		squares += d * d
		greatest = max(greatest, d)
	}
	for (root+1)*(root+1) <= squares {
		root++
	}
	return min(256, map[string]int{"sum": sum, "squares": root, "greatest": greatest}[rule])
}

// slowValue finds the value of a curve as the mean of the powers at the integer speeds around it.
func slowValue(k wake.Curve, speed int) int {
	power := func(i int) int { return k.Powers[min(i, len(k.Powers)-1)] }
	return power(speed/256)*(256-speed%256) + power(speed/256+1)*(speed%256)
}

// slowEnergy finds an energy from the definitions alone, with all speeds of the rose higher by more.
func slowEnergy(f wake.Farm, more int) int {
	sum := 0
	for sector := range 8 {
		for speed := range 51 {
			if speed >= f.Curve.CutOut {
				continue
			}
			for _, d := range slowCombined(f.Site, f.Wake, sector) {
				sum += f.Rose[sector][speed] * slowValue(f.Curve, (speed+more)*(256-d))
			}
		}
	}
	return sum
}
