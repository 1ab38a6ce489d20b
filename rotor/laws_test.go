package rotor_test

import (
	"math"
	"math/rand"
	"slices"
	"testing"

	"nacelle/api"
	"nacelle/rotor"
)

func TestP36BalancesDoNotFall(t *testing.T) {
	r := rand.New(rand.NewSource(11))
	for range 200 {
		blade, flow := randomBlade(r, 3), randomFlow(r)
		ring, depth := r.Intn(len(blade.Rings)), 1+r.Intn(9)
		before, brackets := math.MinInt, 0
		for k := range 1<<(depth-1) + 1 {
			n, _ := rotor.Balance(blade, flow, ring, at(k, depth))
			check(t, "the balance falls", n < before, false)
			before = n
			if rotor.CheckBracket(blade, flow, ring, at(k, depth)) == api.OK {
				brackets++
				next, _ := rotor.Balance(blade, flow, ring, at(k+1, depth))
				check(t, "the signs of a bracket", n <= 0 && next > 0, true)
			}
		}
		_, e := rotor.Find(blade, flow, ring, depth)
		check(t, "one bracket at most", brackets <= 1, true)
		check(t, "none without a change of sign", brackets == 1, e == api.OK)
		check(t, "none with a balance at 1/2 that is not above 0", e == api.ErrNone, before <= 0)
	}
}

func TestP36FinerBracketsLieWithin(t *testing.T) {
	r := rand.New(rand.NewSource(12))
	for range 200 {
		blade, flow := randomBalanced(r, 3)
		ring := r.Intn(len(blade.Rings))
		bracket, _ := rotor.Find(blade, flow, ring, 1)
		thrust, _ := rotor.Thrust(blade, flow, 1)
		rings, _ := rotor.Rings(blade, flow, 1)
		for depth := 2; depth <= 12; depth++ {
			finer, e := rotor.Refine(blade, flow, ring, bracket)
			check(t, "Refine", e, api.OK)
			check(t, "the depth of a finer bracket", finer.Depth, depth)
			check(t, "a half of the bracket", finer.At/2, bracket.At)
			found, _ := rotor.Find(blade, flow, ring, depth)
			check(t, "Find and Refine", found, finer)
			check(t, "a bracket that is refined", rotor.CheckBracket(blade, flow, ring, finer), api.OK)
			less, _ := rotor.Thrust(blade, flow, depth)
			check(t, "the thrust lies within", 4*thrust[0] <= less[0] && less[0] <= less[1] && less[1] <= 4*thrust[1], true)
			finerRings, _ := rotor.Rings(blade, flow, depth)
			for i, torque := range finerRings {
				check(t, "the torque lies within", rings[i][0] <= torque[0] && torque[0] <= torque[1] && torque[1] <= rings[i][1], true)
			}
			bracket, thrust, rings = finer, less, finerRings
		}
		_, e := rotor.Refine(blade, flow, ring, bracket)
		check(t, "Refine at the greatest depth", e, api.ErrLimit)
	}
}

func TestP36TorquesAreSums(t *testing.T) {
	r := rand.New(rand.NewSource(13))
	for range 200 {
		blade, flow := randomBalanced(r, 16)
		depth := 1 + r.Intn(12)
		rings, _ := rotor.Rings(blade, flow, depth)
		check(t, "a torque for each ring", len(rings), len(blade.Rings))
		torque, _ := rotor.Torque(blade, flow, depth)
		check(t, "the torque of a blade", torque, total(rings))
		for i, ring := range blade.Rings {
			single := rotor.Blade{Polar: blade.Polar, Rings: []rotor.Ring{ring}}
			alone, e := rotor.Torque(single, flow, depth)
			check(t, "the torque of a ring alone", e, api.OK)
			check(t, "the torque of a ring alone", alone, rings[i])
		}
	}
}

func TestP36NoPitchIsBetter(t *testing.T) {
	r := rand.New(rand.NewSource(14))
	for range 50 {
		blade, flow := randomBalanced(r, 4)
		depth := 1 + r.Intn(12)
		best, torques, e := rotor.Best(blade, flow, depth, -64, 64)
		check(t, "Best", e, api.OK)
		for angle := -64; angle <= 64; angle++ {
			flow.Pitch = angle
			torque, e := rotor.Torque(blade, flow, depth)
			if e != api.OK {
				continue
			}
			check(t, "a better pitch", torque[0] > torques[0] || torque[0] == torques[0] && angle < best, false)
			limit, e := rotor.Limit(blade, flow, depth, -64, 64, torque[1])
			check(t, "Limit of a torque", e, api.OK)
			check(t, "the least pitch is not above this one", limit <= angle, true)
			if angle == best {
				check(t, "the torque at the best pitch", torque, torques)
			}
		}
	}
}

func TestP36LoadsComeBack(t *testing.T) {
	r := rand.New(rand.NewSource(15))
	load := func() int { return r.Intn(2000001) - 1000000 }
	for range 1000 {
		loads := [3]int{load(), load(), load()}
		if r.Intn(10) == 0 {
			loads = [3]int{loads[0], loads[0], loads[0]}
		}
		sum, c, e := rotor.Split(loads)
		check(t, "Split", e, api.OK)
		check(t, "equal loads have no component", c == rotor.Pair{}, loads[0] == loads[1] && loads[1] == loads[2])
		back, e := rotor.Merge(sum, c)
		check(t, "Merge", e, api.OK)
		check(t, "Merge", back, loads)
		_, e = rotor.Merge(sum, pair(c.A+1, c.B))
		check(t, "Merge of another component", e == api.OK, false)
		turned, _ := rotor.Turn(c, 1)
		_, next, _ := rotor.Split([3]int{loads[2], loads[0], loads[1]})
		check(t, "the component of loads that are turned", next, turned)
	}
}

func TestP36NormsMultiply(t *testing.T) {
	r := rand.New(rand.NewSource(16))
	number := func() int { return r.Intn(40001) - 20000 }
	for range 1000 {
		p, q := pair(number(), number()), pair(number(), number())
		product, _ := rotor.Times(p, q)
		m, _ := rotor.Norm(p)
		n, _ := rotor.Norm(q)
		if max(product.A, -product.A, product.B, -product.B) <= 999999999 {
			got, _ := rotor.Norm(product)
			check(t, "the norm of a product", got, m*n)
		}
		conjugate, _ := rotor.Conjugate(p)
		whole, _ := rotor.Times(p, conjugate)
		check(t, "a pair times its conjugate", whole, pair(m, 0))
		twice, _ := rotor.Conjugate(conjugate)
		check(t, "the conjugate of the conjugate", twice, p)
		thirds := r.Intn(2000001) - 1000000
		turned, _ := rotor.Turn(p, thirds)
		got, _ := rotor.Norm(turned)
		check(t, "a turn keeps the norm", got, m)
		back, _ := rotor.Turn(turned, -thirds)
		check(t, "a turn back", back, p)
		w, _ := rotor.Turn(pair(1, 0), thirds)
		power, _ := rotor.Times(p, w)
		check(t, "a turn is a product", turned, power)
	}
}

func TestP36BladesComeBack(t *testing.T) {
	r := rand.New(rand.NewSource(17))
	for range 300 {
		blade := randomBlade(r, 16)
		text, e := rotor.Print(blade)
		check(t, "Print", e, api.OK)
		back, i, e := rotor.Parse(text)
		check(t, "Parse", e, api.OK)
		check(t, "Parse", i, 0)
		checkBlade(t, "a blade from its text", back, blade)
		again, _ := rotor.Print(back)
		check(t, "a text from its blade", again, text)
	}
}

// TestP1ArgumentsStay: no function changes its arguments.
func TestP1ArgumentsStay(t *testing.T) {
	blade, record := two(), [][3]int{{4, 1, 1}, {1, 4, 1}}
	flow := pitch(1)
	rotor.Inflow(blade, flow, 1, at(0, 3))
	rotor.Find(blade, flow, 1, 3)
	rotor.Refine(blade, flow, 0, at(0, 3))
	rotor.Thrust(blade, flow, 3)
	rotor.Best(blade, flow, 3, -64, 64)
	rotor.Limit(blade, flow, 3, -64, 64, 0)
	rotor.Print(blade)
	rotor.Rotating(record)
	rotor.Fixed(record)
	checkBlade(t, "the blade", blade, two())
	checkList(t, "the record", record, [][3]int{{4, 1, 1}, {1, 4, 1}})
	rings, _ := rotor.Rings(blade, flow, 3)
	before := slices.Clone(rings)
	rings[0] = [2]int{7, 7}
	again, _ := rotor.Rings(blade, flow, 3)
	checkList(t, "Rings again", again, before)
}

// TestP1AnyArguments: no function panics, whatever its arguments are.
func TestP1AnyArguments(t *testing.T) {
	numbers := []int{math.MinInt, -65, -1, 0, 1, 2, 12, 64, math.MaxInt}
	blades := []rotor.Blade{{}, b(), two(), most(), {Polar: b().Polar}, {Rings: b().Rings}, {Polar: rotor.Polar{Lift: []int{0}}, Rings: b().Rings}}
	for _, x := range numbers {
		for _, y := range numbers {
			for _, blade := range blades {
				for _, flow := range []rotor.Flow{f(), {Wind: x, Spin: y, Pitch: x}, {Wind: 50, Spin: 1, Pitch: y}} {
					rotor.CheckFlow(flow)
					rotor.Inflow(blade, flow, x, at(x, y))
					rotor.Class(blade, flow, x, y)
					rotor.Balance(blade, flow, 0, at(x, y))
					rotor.Find(blade, flow, x, y)
					rotor.Refine(blade, flow, 0, at(x, y))
					rotor.Thrust(blade, flow, x)
					rotor.Rings(blade, flow, x)
					rotor.Best(blade, flow, 12, x, y)
					rotor.Limit(blade, flow, 12, x, y, x)
				}
			}
			rotor.Split([3]int{x, y, x})
			rotor.Merge(x, pair(x, y))
			rotor.Times(pair(x, y), pair(y, x))
			rotor.Conjugate(pair(x, y))
			rotor.Norm(pair(x, y))
			rotor.Turn(pair(x, y), x)
			rotor.Fixed([][3]int{{x, y, x}})
		}
	}
}
