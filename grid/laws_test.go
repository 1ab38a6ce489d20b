package grid_test

import (
	"math"
	"math/rand"
	"slices"
	"testing"

	"nacelle/api"
	"nacelle/grid"
)

func TestP66CurrentsFlowOn(t *testing.T) {
	r := rand.New(rand.NewSource(8))
	for range 500 {
		l := randomNetwork(r)
		in := randomNumbers(r, len(l), 64)
		currents, e := grid.Currents(l, in)
		check(t, "Currents", e, api.OK)
		atRoot, all := complex128(0), complex128(0)
		for i := range l {
			arriving := in[i]
			for j, c := range l {
				if c.Parent == i+1 {
					arriving += currents[j]
				}
			}
			check(t, "what arrives at a node flows on", currents[i], arriving)
			if l[i].Parent == 0 {
				atRoot += currents[i]
			}
			all += in[i]
		}
		check(t, "all currents arrive at the node 0", atRoot, all)
	}
}

// plus returns the sums of the numbers of two lists.
func plus(a, b []complex128) []complex128 {
	var out []complex128
	for i, x := range a {
		out = append(out, x+b[i])
	}
	return out
}

func TestP66FlowsAddUp(t *testing.T) {
	r := rand.New(rand.NewSource(9))
	for range 500 {
		l := randomNetwork(r)
		a, b := randomNumbers(r, len(l), 32), randomNumbers(r, len(l), 32)
		rootA, rootB := randomNumber(r, -512, 512), randomNumber(r, -512, 512)
		currentsA, _ := grid.Currents(l, a)
		currentsB, _ := grid.Currents(l, b)
		currents, e := grid.Currents(l, plus(a, b))
		check(t, "Currents", e, api.OK)
		checkList(t, "the currents add up", currents, plus(currentsA, currentsB))
		voltsA, _ := grid.Voltages(l, a, rootA)
		voltsB, _ := grid.Voltages(l, b, rootB)
		volts, e := grid.Voltages(l, plus(a, b), rootA+rootB)
		check(t, "Voltages", e, api.OK)
		checkList(t, "the voltages add up", volts, plus(voltsA, voltsB))
	}
}

func TestP66PowersArriveOrAreLost(t *testing.T) {
	r := rand.New(rand.NewSource(10))
	for range 500 {
		l := randomNetwork(r)
		in, root := randomNumbers(r, len(l), 64), randomNumber(r, -1024, 1024)
		powers, e := grid.Powers(l, in, root)
		check(t, "Powers", e, api.OK)
		lost, _ := grid.Losses(l, in)
		given, current := complex128(0), complex128(0)
		for i, power := range powers {
			given += power
			current += complex(real(in[i]), -imag(in[i]))
		}
		check(t, "what arrives and what is lost", root*current+lost, given)
	}
	powers, _ := grid.Powers(network(), in(), 10)
	check(t, "the powers of the example together", powers[0]+powers[1]+powers[2], 44-6i)
}

func TestP66NoTreeLosesLess(t *testing.T) {
	r := rand.New(rand.NewSource(11))
	for range 500 {
		count := r.Intn(6)
		l, in := randomLines(r, count+1), randomNumbers(r, count, 4)
		best, e := grid.Switch(l, in)
		if e != api.OK {
			continue
		}
		loss := func(indices []int) (float64, bool) {
			var lines []grid.Line
			for _, i := range indices {
				lines = append(lines, l[i])
			}
			cables, order, e := grid.Cables(lines, count+1)
			if e != api.OK {
				check(t, "Cables", e, api.ErrRing)
				return 0, false
			}
			var ordered []complex128
			for _, node := range order[1:] {
				ordered = append(ordered, in[node-1])
			}
			lost, e := grid.Losses(cables, ordered)
			check(t, "Losses", e, api.OK)
			return real(lost), true
		}
		least, ok := loss(best)
		check(t, "the best tree is a tree", ok, true)
		for set := range 1 << len(l) {
			_, indices := chosen(l, set)
			if lost, ok := loss(indices); ok {
				check(t, "a tree loses less than the best one", lost < least, false)
			}
		}
	}
}

func TestP66TreesOfTheRing(t *testing.T) {
	for set, want := range map[int]complex128{3: 5, 5: 2, 6: 5} { // by the bits of the lines
		lines, _ := chosen(ring(), set)
		cables, _, e := grid.Cables(lines, 3)
		check(t, "Cables", e, api.OK)
		lost, e := grid.Losses(cables, []complex128{1, 1})
		check(t, "Losses", e, api.OK)
		check(t, "the loss of a tree of the ring", lost, want)
	}
}

func TestP66TurningSystems(t *testing.T) {
	r := rand.New(rand.NewSource(12))
	for range 300 {
		x := complex64(randomNumber(r, -64, 64))
		v := [4]complex64{x, 1i * x, -x, -1i * x}
		got, e := grid.Sequence(v)
		check(t, "Sequence", e, api.OK)
		check(t, "a system that turns has the positive sequence alone", got, [4]complex64{1: 4 * x})
		if x != 0 {
			unbalance, e := grid.Unbalance(v)
			check(t, "Unbalance", e, api.OK)
			check(t, "the unbalance of a system that turns", unbalance, ratio(0, 1))
		}
		some := [4]complex64(randomVectors(r, 4))
		sequences, _ := grid.Sequence(some)
		for n, x := range some { // the vectors come back from their sequences
			var sum gauss
			for k, s := range sequences {
				term := whole(complex128(s), 16)
				for range k * n {
					term = term.times(gauss{0, 1})
				}
				sum = sum.plus(term)
			}
			check(t, "the vectors of sequences", sum, gauss{4, 0}.times(whole(complex128(x), 16)))
		}
	}
}

// inside returns points of a polygon on the lattice.
func inside(t *testing.T, l []api.Point, most int) []api.Point {
	var out []api.Point
	for x := -most; x <= most; x++ {
		for y := -most; y <= most; y++ {
			in, e := grid.Inside(l, at(x, y))
			check(t, "Inside", e, api.OK)
			if in {
				out = append(out, at(x, y))
			}
		}
	}
	return out
}

func TestP66Sums(t *testing.T) {
	r := rand.New(rand.NewSource(13))
	for range 40 {
		a, b := randomPolygon(r, 4), randomPolygon(r, 4)
		sum, e := grid.Sum(a, b)
		check(t, "Sum", e, api.OK)
		check(t, "CheckPolygon", grid.CheckPolygon(sum), api.OK)
		insideB := inside(t, b, 4)
		for _, p := range inside(t, a, 4) {
			for _, q := range insideB {
				in, e := grid.Inside(sum, at(p.X+q.X, p.Y+q.Y))
				check(t, "Inside", e, api.OK)
				check(t, "a sum is in the sum", in, true)
			}
		}
		for _, c := range sum {
			is := slices.ContainsFunc(a, func(p api.Point) bool { return slices.Contains(b, at(c.X-p.X, c.Y-p.Y)) })
			check(t, "a corner of the sum is a sum of corners", is, true)
		}
	}
}

func TestP66Ranges(t *testing.T) {
	r := rand.New(rand.NewSource(14))
	for range 100 {
		l := randomPolygon(r, 8)
		for x := -9; x <= 9; x++ {
			for y := -9; y <= 9; y++ {
				in, _ := grid.Inside(l, at(x, y))
				span, e := grid.Range(l, y)
				within := e == api.OK && span[0].Num <= x*span[0].Den && x*span[1].Den <= span[1].Num
				check(t, "a point is permitted just within the range", in, within)
			}
		}
	}
}

func TestP66Curtailed(t *testing.T) {
	r := rand.New(rand.NewSource(15))
	for range 300 {
		c := randomCode(r)
		p, volts := at(number(r, -14, 14), number(r, -14, 14)), number(r, 0, 200)
		power, e := grid.Curtail(c, p)
		clause, _ := grid.Meets(c, p, volts)
		if e != api.OK {
			check(t, "Curtail", e, api.ErrInfeasible)
			check(t, "a point that cannot be curtailed does not meet the clause 1", clause, 1)
			continue
		}
		check(t, "the power of a point that meets the clause 1", clause != 1 && power != p.X, false)
		check(t, "a curtailed power is not greater", power <= p.X, true)
		clause, e = grid.Meets(c, at(power, p.Y), volts)
		check(t, "Meets", e, api.OK)
		check(t, "a curtailed point does not meet the clause 1", clause == 1, false)
		clause, _ = grid.Meets(c, at(power, p.Y), c.Low)
		check(t, "a curtailed point at a good voltage", clause, 0)
	}
}

func TestP66FarmsThatStayOn(t *testing.T) {
	r := rand.New(rand.NewSource(16))
	for range 300 {
		c := randomCode(r)
		trace := randomTrace(r, c)
		on := slices.Repeat([]bool{true}, len(trace))
		tick, e := grid.Ride(c, trace, on)
		check(t, "Ride", e, api.OK)
		check(t, "a farm that is never off rides through", tick, -1)
	}
}

// TestP1ArgumentsStay: no function changes its arguments, or shares memory with them.
func TestP1ArgumentsStay(t *testing.T) {
	l, flowing, lines := network(), in(), ring()
	currents, _ := grid.Currents(l, flowing)
	volts, _ := grid.Voltages(l, flowing, 10)
	powers, _ := grid.Powers(l, flowing, 10)
	grid.CheckFlow(l, flowing, volts)
	currents[0], volts[0], powers[0] = 0, 0, 0
	best, _ := grid.Switch(lines, flowing[:2])
	best[0] = 5
	cables, order, _ := grid.Cables(lines[:2], 3)
	cables[0].Parent, order[0] = 7, 7
	checkList(t, "the cables", l, network())
	checkList(t, "the currents", flowing, in())
	checkList(t, "the lines", lines, ring())
	a, b := moved(triangle(), 1, 1), unit()
	sum, _ := grid.Sum(a, b)
	sum[0].X = 9
	grid.Sum(points(2, 0, 0, 2, 0, 0), b)
	c := code()
	grid.Meets(c, at(1, 1), 100)
	grid.Curtail(c, at(1, 1))
	trace, on := []int{100, 50, 3}, marks("x.x")
	grid.Ramps(c, trace)
	grid.Ride(c, trace, on)
	checkList(t, "a polygon", a, moved(triangle(), 1, 1))
	checkList(t, "another polygon", b, unit())
	checkList(t, "the corners of a code", c.Corners, code().Corners)
	checkList(t, "the levels of a code", c.Levels, code().Levels)
	checkList(t, "a trace", trace, []int{100, 50, 3})
	checkList(t, "the states", on, marks("x.x"))
	u, i := []complex64{1, 2i}, []complex64{3, 4}
	grid.Instant(u, i)
	checkList(t, "voltages", u, []complex64{1, 2i})
	checkList(t, "currents", i, []complex64{3, 4})
	shuffled := points(2, 0, 0, 2, 0, 0)
	grid.CheckPolygon(shuffled)
	checkList(t, "corners in a wrong order", shuffled, points(2, 0, 0, 2, 0, 0))
}

// TestP1AnyArguments: no function panics or runs on, whatever its arguments are.
func TestP1AnyArguments(t *testing.T) {
	integers := []int{math.MinInt, -10001, -1, 0, 1, 2, 200, 10000, math.MaxInt}
	floats := []float64{nan, inf, -inf, zero, math.MaxFloat64, 1, -0.0625}
	for _, x := range integers {
		for _, y := range integers {
			polygons := [][]api.Point{nil, points(x, y), points(0, 0, x, y, 0, 2), points(x, x, y, x, y, y), points(x, y, x, y, x, y)}
			for _, l := range polygons {
				c := grid.Code{Corners: l, Low: x, High: y, Ramp: x, Levels: levels(0, x, y, y)}
				other := changed(func(c *grid.Code) { c.Corners = l })
				grid.CheckPolygon(l)
				grid.Inside(l, at(y, x))
				grid.Sum(l, triangle())
				grid.Sum(square(), l)
				grid.Range(l, y)
				for _, c := range []grid.Code{c, other, code()} {
					grid.CheckCode(c)
					grid.Meets(c, at(x, y), x)
					grid.Curtail(c, at(x, y))
					grid.Ramps(c, []int{x, y})
					grid.Ride(c, []int{x, y}, []bool{false, true})
				}
			}
			lines := []grid.Line{line(x, y, 1), line(0, 1, 1)}
			grid.CheckLines(lines, y)
			grid.Switch(lines, []complex128{1})
			grid.Cables(lines, x)
			grid.Cables(nil, x)
			grid.CheckNetwork([]grid.Cable{cable(x, 1), cable(y, 1)})
			grid.Powers([]grid.Cable{cable(x, 1), cable(y, 1)}, []complex128{1, 1}, 1)
		}
	}
	for _, x := range floats {
		for _, y := range floats {
			z := complex(x, y)
			grid.CheckFlow(network(), []complex128{z, 1, z}, []complex128{z, z, z, z})
			grid.CheckFlow(network(), in(), []complex128{1, z, z, z})
			grid.Powers([]grid.Cable{cable(0, z)}, []complex128{z}, z)
			grid.Losses([]grid.Cable{cable(0, z)}, []complex128{z})
			grid.Switch([]grid.Line{line(0, 1, z)}, []complex128{z})
			grid.Sequence([4]complex64{complex64(z)})
			grid.Unbalance([4]complex64{complex64(z), 1})
			grid.Instant([]complex64{complex64(z)}, []complex64{complex64(z)})
		}
	}
}
