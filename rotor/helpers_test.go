package rotor_test

import (
	"math/big"
	"math/rand"
	"reflect"
	"slices"
	"testing"

	"nacelle/rotor"
)

// check reports a result that is not the expected one.
func check[T comparable](t *testing.T, what string, got, want T) {
	t.Helper()
	if got != want {
		t.Errorf("%s: got %v, want %v", what, got, want)
	}
}

// checkList reports a list that is not the expected one; empty lists are equal.
func checkList[T comparable](t *testing.T, what string, got, want []T) {
	t.Helper()
	if !slices.Equal(got, want) {
		t.Errorf("%s: got %v, want %v", what, got, want)
	}
}

// checkZero reports a result beside an error that is not the zero value.
func checkZero(t *testing.T, what string, results ...any) {
	t.Helper()
	for _, r := range results {
		v := reflect.ValueOf(r)
		if v.Kind() == reflect.Slice && v.Len() == 0 {
			continue
		}
		if !v.IsZero() {
			t.Errorf("%s: got %v beside an error", what, r)
		}
	}
}

// checkBlade reports a blade that is not the expected one.
func checkBlade(t *testing.T, what string, got, want rotor.Blade) {
	t.Helper()
	checkList(t, what+": lifts", got.Polar.Lift, want.Polar.Lift)
	checkList(t, what+": drags", got.Polar.Drag, want.Polar.Drag)
	checkList(t, what+": rings", got.Rings, want.Rings)
}

// b and f are the blade and the flow of the chapter's examples.
func b() rotor.Blade {
	return rotor.Blade{Polar: rotor.Polar{Lift: []int{0, 1, 2}, Drag: []int{0, 0, 1}}, Rings: []rotor.Ring{{Radius: 2, Chord: 1, Tip: 256}}}
}

func f() rotor.Flow { return rotor.Flow{Wind: 1, Spin: 256} }

// pitch returns the flow of the examples with another pitch.
func pitch(angle int) rotor.Flow { return rotor.Flow{Wind: 1, Spin: 256, Pitch: angle} }

func at(k, depth int) rotor.Induction { return rotor.Induction{At: k, Depth: depth} }

// long returns a blade with so many classes and rings.
func long(classes, rings int) rotor.Blade {
	out := rotor.Blade{Polar: rotor.Polar{Lift: make([]int, classes), Drag: make([]int, classes)}}
	for i := range rings {
		out.Rings = append(out.Rings, rotor.Ring{Radius: i + 1, Chord: 1})
	}
	return out
}

// most is a blade with the greatest numbers.
func most() rotor.Blade {
	out := long(32, 16)
	for c := range 32 {
		out.Polar.Lift[c], out.Polar.Drag[c] = 1000, 1000
	}
	for i := range out.Rings {
		out.Rings[i] = rotor.Ring{Radius: 185 + i, Chord: 100, Twist: -64, Tip: 256}
	}
	return out
}

// randomBlade returns a blade with so many rings at most, that is in balance in many flows.
func randomBlade(r *rand.Rand, rings int) rotor.Blade {
	var out rotor.Blade
	scale := 1 + r.Intn(1000)
	for range 1 + r.Intn(32) {
		out.Polar.Lift = append(out.Polar.Lift, r.Intn(scale+1))
		out.Polar.Drag = append(out.Polar.Drag, r.Intn(scale+1))
	}
	slices.Sort(out.Polar.Lift)
	for i, radius := range r.Perm(200)[:1+r.Intn(rings)] {
		out.Rings = append(out.Rings, rotor.Ring{Radius: radius + 1, Chord: 1 + r.Intn(100), Twist: r.Intn(129) - 64, Tip: r.Intn(257)})
		if i%2 == 0 {
			out.Rings[i].Chord = 1 + r.Intn(3)
		}
	}
	slices.SortFunc(out.Rings, func(a, b rotor.Ring) int { return a.Radius - b.Radius })
	return out
}

func randomFlow(r *rand.Rand) rotor.Flow {
	out := rotor.Flow{Wind: 1 + r.Intn(50), Spin: 1 + r.Intn(1000), Pitch: r.Intn(129) - 64}
	if r.Intn(2) == 0 { // great inflows, of which there are many at one bracket
		out.Spin = 1 + r.Intn(20)
	}
	return out
}

// randomBalanced returns a blade and a flow in which all rings have brackets.
func randomBalanced(r *rand.Rand, rings int) (rotor.Blade, rotor.Flow) {
	for {
		blade, flow := randomBlade(r, rings), randomFlow(r)
		if _, ok := slowBrackets(blade, flow, 1); ok {
			return blade, flow
		}
	}
}

// slowInflow finds an inflow as a quotient of rational numbers, rounded down.
func slowInflow(blade rotor.Blade, flow rotor.Flow, ring int, i rotor.Induction) int {
	left := big.NewRat(int64(1<<i.Depth-i.At), int64(1<<i.Depth))
	scaled := new(big.Rat).Mul(left, big.NewRat(int64(1024*flow.Wind), int64(flow.Spin*blade.Rings[ring].Radius)))
	return int(new(big.Int).Div(scaled.Num(), scaled.Denom()).Int64())
}

func slowClass(blade rotor.Blade, flow rotor.Flow, ring, inflow int) int {
	class := inflow - blade.Rings[ring].Twist - flow.Pitch
	if last := len(blade.Polar.Lift) - 1; class > last {
		return last
	}
	if class < 0 {
		return 0
	}
	return class
}

func slowBalance(blade rotor.Blade, flow rotor.Flow, ring int, i rotor.Induction) int {
	r, n := blade.Rings[ring], 1<<i.Depth
	lift := blade.Polar.Lift[slowClass(blade, flow, ring, slowInflow(blade, flow, ring, i))]
	return 1024*i.At*(n-i.At)*r.Radius - n*n*r.Chord*r.Tip*lift
}

// slowBrackets finds all inductions of a depth at which the sign changes, ring by ring; false if a ring has none.
func slowBrackets(blade rotor.Blade, flow rotor.Flow, depth int) ([][]rotor.Induction, bool) {
	var out [][]rotor.Induction
	ok := true
	for ring := range blade.Rings {
		var found []rotor.Induction
		for k := range 1 << (depth - 1) {
			if slowBalance(blade, flow, ring, at(k, depth)) <= 0 && slowBalance(blade, flow, ring, at(k+1, depth)) > 0 {
				found = append(found, at(k, depth))
			}
		}
		ok = ok && len(found) > 0
		out = append(out, found)
	}
	return out, ok
}

// slowTorques finds the least and the greatest torque of a ring at a bracket, over all its inflows.
func slowTorques(blade rotor.Blade, flow rotor.Flow, ring int, bracket rotor.Induction) [2]int {
	r := blade.Rings[ring]
	var torques []int
	for j := slowInflow(blade, flow, ring, at(bracket.At+1, bracket.Depth)); j <= slowInflow(blade, flow, ring, bracket); j++ {
		c := slowClass(blade, flow, ring, j)
		torques = append(torques, r.Radius*r.Chord*r.Tip*(j*blade.Polar.Lift[c]-1024*blade.Polar.Drag[c]))
	}
	return [2]int{slices.Min(torques), slices.Max(torques)}
}

// slowForces finds the thrust of a blade and the torques of its rings from the definitions alone.
func slowForces(blade rotor.Blade, flow rotor.Flow, depth int) ([2]int, [][2]int, bool) {
	brackets, ok := slowBrackets(blade, flow, depth)
	if !ok {
		return [2]int{}, nil, false
	}
	var thrust [2]int
	var torques [][2]int
	for ring, found := range brackets {
		k, n, radius := found[0].At, 1<<depth, blade.Rings[ring].Radius
		thrust[0] += 1024 * k * (n - k) * radius
		thrust[1] += 1024 * (k + 1) * (n - k - 1) * radius
		torques = append(torques, slowTorques(blade, flow, ring, found[0]))
	}
	return thrust, torques, true
}

// total returns the sum of intervals.
func total(l [][2]int) [2]int {
	var out [2]int
	for _, x := range l {
		out = [2]int{out[0] + x[0], out[1] + x[1]}
	}
	return out
}
