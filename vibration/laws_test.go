package vibration_test

import (
	"math"
	"math/rand"
	"slices"
	"testing"

	"nacelle/api"
	"nacelle/vibration"
)

func TestP45CountsDoNotFall(t *testing.T) {
	r := rand.New(rand.NewSource(11))
	for range 50 {
		some := randomChain(r, 5)
		before := 0
		for at := range 801 {
			count, e := vibration.Count(some, at)
			check(t, "Count", e, api.OK)
			check(t, "the count falls", count < before, false)
			before = count
		}
		check(t, "the count comes to the number of masses", before, len(some.Masses))
		last := -1
		for index := range some.Masses {
			interval, _ := vibration.Interval(some, index)
			check(t, "modes ascend", last <= interval, true)
			last = interval
		}
	}
}

func TestP45DeterminantsAreThoseOfThePolynomial(t *testing.T) {
	r := rand.New(rand.NewSource(12))
	for range 100 {
		some := randomChain(r, 5)
		polynomial, _ := vibration.Polynomial(some)
		for at := 0; at <= 800; at += 1 + r.Intn(20) {
			sum, scale := 0, 1
			for i := len(polynomial) - 1; i >= 0; i-- { // for eighths
				sum = sum*at + polynomial[i]*scale
				scale *= 8
			}
			value, _ := vibration.Value(some, at)
			check(t, "the value of the polynomial", value, sum)
			count, _ := vibration.Count(some, at)
			if value != 0 {
				check(t, "the sign that the count says", value > 0, count%2 == 0)
			}
		}
	}
}

func TestP45ModesLieInDiscs(t *testing.T) {
	r := rand.New(rand.NewSource(13))
	for range 200 {
		some := randomChain(r, 5)
		discs, _ := vibration.Discs(some)
		check(t, "a disc for each mass", len(discs), len(some.Masses))
		for index := range some.Masses {
			eighth, _ := vibration.Interval(some, index)
			check(t, "a mode lies in a disc", slices.ContainsFunc(discs, func(d vibration.Disc) bool {
				// Both fractions are brought to the same denominator.
				centre, radius, scale := 8*d.Centre.Num*d.Radius.Den, 8*d.Radius.Num*d.Centre.Den, d.Centre.Den*d.Radius.Den
				return centre-radius < (eighth+1)*scale && eighth*scale <= centre+radius
			}), true)
		}
	}
}

// counts returns how many modes are below each value.
func counts(c vibration.Chain) []int {
	var out []int
	for at := range 801 {
		count, _ := vibration.Count(c, at)
		out = append(out, count)
	}
	return out
}

func TestP45SpringsAndMasses(t *testing.T) {
	r := rand.New(rand.NewSource(14))
	for range 50 {
		some := randomChain(r, 5)
		i := r.Intn(len(some.Masses))
		before := counts(some)
		stiffer := vibration.Chain{Masses: some.Masses, Springs: slices.Clone(some.Springs)}
		stiffer.Springs[i] = min(some.Springs[i]+1+r.Intn(5), 20)
		heavier := vibration.Chain{Masses: slices.Clone(some.Masses), Springs: some.Springs}
		heavier.Masses[i] = min(some.Masses[i]+1+r.Intn(2), 5)
		for at, count := range counts(stiffer) {
			check(t, "a stiffer spring lowers a mode", count > before[at], false)
		}
		for at, count := range counts(heavier) {
			check(t, "a greater mass raises a mode", count < before[at], false)
		}
	}
}

func TestP45ModesSeparate(t *testing.T) {
	r := rand.New(rand.NewSource(15))
	for range 100 {
		some := randomChain(r, 5)
		last := len(some.Masses) - 1
		if last == 0 {
			continue
		}
		shorter := counts(vibration.Chain{Masses: some.Masses[:last], Springs: some.Springs[:last]})
		for at, count := range counts(some) {
			check(t, "the modes separate", count == shorter[at] || count == shorter[at]+1, true)
		}
	}
}

func TestP45GuardsForbid(t *testing.T) {
	r := rand.New(rand.NewSource(16))
	for range 100 {
		some, orders, guard := randomChain(r, 5), randomOrders(r), r.Intn(100)
		for speed := 1; speed <= 100; speed++ {
			less, _ := vibration.Forbidden(some, orders, guard, speed)
			more, _ := vibration.Forbidden(some, orders, guard+1, speed)
			check(t, "a greater guard permits a speed", less && !more, false)
		}
	}
}

func TestP45BlocksComeBack(t *testing.T) {
	r := rand.New(rand.NewSource(17))
	for range 1000 {
		block := randomBlock(r)
		orders, e := vibration.Orders(block)
		check(t, "Orders", e, api.OK)
		back, e := vibration.Back(orders)
		check(t, "Back", e, api.OK)
		check(t, "Back", back, block)
		signal := randomSamples(r, 4*r.Intn(20))
		levels, _ := vibration.Levels(signal)
		energy := 0.0
		for _, x := range signal {
			energy += float64(x) * float64(x)
		}
		check(t, "four times the energy", levels[0]+2*levels[1]+levels[2], 4*energy)
	}
}

func TestP45FewerAlarms(t *testing.T) {
	r := rand.New(rand.NewSource(18))
	for range 300 {
		l := randomEntries(r, 40)
		n := 2 + r.Intn(8)
		m := 1 + r.Intn(n-1)
		few, _ := vibration.Persist(l, m, n)
		many, e := vibration.Persist(l, m+1, n)
		check(t, "Persist", e, api.OK)
		for i := range l {
			check(t, "an alarm that needs more entries", many[i] && !few[i], false)
		}
		lists := [][]bool{l, few, many}
		one, _ := vibration.Vote(lists, 2)
		more, _ := vibration.Vote(lists, 3)
		for i := range l {
			check(t, "a vote that needs more lists", more[i] && !one[i], false)
		}
	}
}

// TestP1ArgumentsStay: no function changes its arguments, or shares memory with them.
func TestP1ArgumentsStay(t *testing.T) {
	some, orders, dampers := c(), []int{1, 2}, []int{1, 2}
	vibration.Polynomial(some)
	vibration.Value(some, 8)
	vibration.Count(some, 8)
	vibration.Interval(some, 1)
	vibration.Discs(some)
	vibration.Damped(some, dampers, 8)
	vibration.Bands(some, orders, 4, 100)
	checkChain(t, "the chain", some, c())
	checkList(t, "the orders", orders, []int{1, 2})
	checkList(t, "the dampers", dampers, []int{1, 2})
	on, off := entries("x.."), entries("..x")
	latch, _ := vibration.Latch(on, off)
	latch[0] = false
	persist, _ := vibration.Persist(on, 1, 1)
	persist[0] = false
	vote, _ := vibration.Vote([][]bool{on}, 1)
	vote[0] = false
	checkList(t, "on", on, entries("x.."))
	checkList(t, "off", off, entries("..x"))
	alarms := []vibration.Alarm{alarm("a", 1), alarm("b", 1), alarm("a", 9)}
	groups, _ := vibration.Groups(alarms, 1)
	groups[0] = append(groups[0][:1], alarm("z", 7))
	groups[1][0].At = 3
	checkList(t, "the alarms", alarms, []vibration.Alarm{alarm("a", 1), alarm("b", 1), alarm("a", 9)})
}

// TestP1AnyArguments: no function panics, whatever its arguments are.
func TestP1AnyArguments(t *testing.T) {
	numbers := []int{math.MinInt, -1, 0, 1, 2, 100, 800, 1024, math.MaxInt}
	chains := []vibration.Chain{{}, c(), heavy(), stiff(), chain(1, 1), {Masses: []int{1}}, {Springs: []int{1}}, chain(math.MinInt, math.MaxInt)}
	for _, x := range numbers {
		for _, y := range numbers {
			for _, some := range chains {
				vibration.Polynomial(some)
				vibration.Value(some, x)
				vibration.Count(some, x)
				vibration.Interval(some, x)
				vibration.Discs(some)
				vibration.Damped(some, []int{x, y}, x)
				vibration.Forbidden(some, []int{x}, 1, y)
				vibration.Forbidden(some, []int{1, 12}, x, y)
				vibration.Bands(some, []int{1, 12}, x, y)
			}
			vibration.Crossing([][2]int{{x, y}}, []int{x}, y)
			vibration.Crossing([][2]int{{1, 1}, {x, y}}, []int{1, 1, 1}, x)
			vibration.Exceeds([]float32{1, 2, 3, 4}, x, float64(y))
			vibration.Persist([]bool{true, false}, x, y)
			vibration.Vote([][]bool{{true}, {false}}, x)
			vibration.Groups([]vibration.Alarm{alarm("a", x), alarm("b", y)}, x)
		}
	}
}
