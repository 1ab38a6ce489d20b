package grid_test

import (
	"math"
	"math/rand"
	"slices"
	"testing"

	"nacelle/api"
	"nacelle/grid"
)

// changed returns the code of the chapter's examples behind a change.
func changed(change func(c *grid.Code)) grid.Code {
	out := code()
	change(&out)
	return out
}

// badCodes are codes with an error, and their errors.
func badCodes() []struct {
	c grid.Code
	e api.Errno
} {
	type row = struct {
		c grid.Code
		e api.Errno
	}
	out := []row{{grid.Code{}, api.ErrShape}, {changed(func(c *grid.Code) { c.Low, c.Levels, c.Corners = -1, nil, points(0, 0, 1, 1, 1, 0) }), api.ErrOrder}}
	for _, bad := range badPolygons {
		out = append(out, row{changed(func(c *grid.Code) { c.Corners, c.Low = bad.l, 201 }), bad.e})
	}
	for _, n := range []struct {
		low, high, ramp int
		e               api.Errno
	}{{-1, 110, 2, api.ErrRange}, {201, 110, 2, api.ErrRange}, {90, -1, 2, api.ErrRange}, {90, 201, 2, api.ErrRange}, {90, 110, -1, api.ErrRange}, {90, 110, 1000000000, api.ErrRange}, {110, 110, 2, api.ErrOrder}, {111, 110, 2, api.ErrOrder}, {0, 0, 0, api.ErrOrder}, {200, 200, 0, api.ErrOrder}, {110, 110, -1, api.ErrRange}, {math.MinInt, math.MaxInt, 2, api.ErrRange}, {90, 110, math.MaxInt, api.ErrRange}} {
		out = append(out, row{changed(func(c *grid.Code) { c.Low, c.High, c.Ramp, c.Levels = n.low, n.high, n.ramp, nil }), n.e})
	}
	for _, l := range []struct {
		levels []grid.Level
		e      api.Errno
	}{
		{nil, api.ErrEmpty}, {make([]grid.Level, 9), api.ErrMany}, {levels(1, 0), api.ErrOrder}, {levels(-1, 0), api.ErrRange}, {levels(1025, 0), api.ErrRange}, {levels(1024, 0), api.ErrOrder}, {levels(0, -1), api.ErrRange}, {levels(0, 91), api.ErrRange}, {levels(1, 91), api.ErrRange}, {levels(0, 20, 0, 30), api.ErrOrder}, {levels(0, 20, 2, 19), api.ErrOrder}, {levels(0, 20, 2, 91), api.ErrRange}, {levels(0, 20, 1025, 20), api.ErrRange}, {levels(0, 20, -1, 20), api.ErrRange}, {levels(0, 20, 3, 30, 2, 30), api.ErrOrder}, {levels(0, 20, 3, 30, 4, 29), api.ErrOrder},
		{levels(0, 20, 0, 91), api.ErrRange}, {levels(0, 20, 0, 20, -1, 0), api.ErrOrder}, {levels(1, 20, 2, 91), api.ErrOrder}, {levels(0, math.MinInt), api.ErrRange}, {levels(math.MaxInt, 0), api.ErrRange},
	} {
		out = append(out, row{changed(func(c *grid.Code) { c.Levels = l.levels }), l.e})
	}
	return out
}

// greatest is the code with the greatest numbers.
func greatest() grid.Code {
	return grid.Code{Corners: square(), Low: 199, High: 200, Ramp: 999999999, Levels: levels(0, 0, 1, 0, 2, 199, 3, 199, 4, 199, 5, 199, 1023, 199, 1024, 199)}
}

func TestP65CheckCode(t *testing.T) {
	for _, good := range []grid.Code{code(), greatest(), {Corners: triangle(), High: 1, Levels: levels(0, 0)}, changed(func(c *grid.Code) { c.Levels = levels(0, 90) }), changed(func(c *grid.Code) { c.Levels = levels(0, 20, 1, 20) })} {
		check(t, "CheckCode", grid.CheckCode(good), api.OK)
	}
	for _, row := range badCodes() {
		check(t, "CheckCode", grid.CheckCode(row.c), row.e)
	}
}

func TestP65Meets(t *testing.T) {
	for _, row := range []struct {
		p           api.Point
		volts, want int
	}{
		{at(3, 2), 100, 1}, {at(2, 2), 100, 0}, {at(3, 2), 80, 1}, {at(3, 2), 200, 1}, {at(2, 2), 89, 2}, {at(2, 2), 90, 0}, {at(2, 2), 110, 0}, {at(2, 2), 111, 3}, {at(0, 0), 0, 2}, {at(0, 0), 200, 3}, {at(-1, 0), 100, 1}, {at(0, -1), 100, 1}, {at(4, 0), 100, 0}, {at(5, 0), 100, 1}, {at(10000, -10000), 100, 1},
	} {
		got, e := grid.Meets(code(), row.p, row.volts)
		check(t, "Meets", e, api.OK)
		check(t, "Meets", got, row.want)
	}
	for _, row := range []struct {
		p     api.Point
		volts int
		e     api.Errno
	}{{at(10001, 0), 100, api.ErrRange}, {at(0, -10001), 100, api.ErrRange}, {at(math.MinInt, math.MaxInt), -1, api.ErrRange}, {at(0, 0), -1, api.ErrRange}, {at(9, 9), 201, api.ErrRange}, {at(0, 0), math.MinInt, api.ErrRange}, {at(0, 0), math.MaxInt, api.ErrRange}} {
		got, e := grid.Meets(code(), row.p, row.volts)
		check(t, "Meets", e, row.e)
		checkZero(t, "Meets", got)
	}
}

func TestP65Curtail(t *testing.T) {
	slanted := changed(func(c *grid.Code) { c.Corners = points(-3, -5, 4, 0, -5, 6) })
	for _, row := range []struct {
		c    grid.Code
		p    api.Point
		want int
	}{
		{code(), at(3, 2), 2}, {code(), at(2, 2), 2}, {code(), at(1, 2), 1}, {code(), at(0, 2), 0}, {code(), at(10000, 0), 4}, {code(), at(5, 4), 0}, {greatest(), at(10000, 10000), 10000}, {greatest(), at(-10000, 0), -10000}, {slanted, at(9, 0), 4}, {slanted, at(9, 1), 2}, {slanted, at(9, 2), 1}, {slanted, at(9, 3), -1}, {slanted, at(9, 4), -2}, {slanted, at(9, 5), -4}, {slanted, at(9, 6), -5}, {slanted, at(9, -4), -2}, {slanted, at(-2, -4), -2}, {slanted, at(9, -5), -3}, {slanted, at(-3, 0), -3},
	} {
		got, e := grid.Curtail(row.c, row.p)
		check(t, "Curtail", e, api.OK)
		check(t, "Curtail", got, row.want)
	}
	sliver := changed(func(c *grid.Code) { c.Corners = points(0, 0, 1, 0, 1, 3) })
	below := changed(func(c *grid.Code) { c.Corners = points(-1, 0, 0, 0, -1, 3) })
	for _, row := range []struct {
		c grid.Code
		p api.Point
		e api.Errno
	}{
		{code(), at(-1, 2), api.ErrInfeasible}, {code(), at(3, 5), api.ErrInfeasible}, {code(), at(3, -1), api.ErrInfeasible}, {slanted, at(-4, 0), api.ErrInfeasible}, {slanted, at(-6, 6), api.ErrInfeasible}, {sliver, at(0, 1), api.ErrInfeasible}, {sliver, at(1, 1), api.OK}, {below, at(5, 1), api.OK}, {below, at(-2, 1), api.ErrInfeasible}, {changed(func(c *grid.Code) { c.Corners = points(0, 0, 5, 1, 1, 3) }), at(0, 1), api.ErrInfeasible}, {changed(func(c *grid.Code) { c.Corners = points(0, 0, 2, 3, 3, 5) }), at(9, 1), api.ErrInfeasible},
		{code(), at(10001, 9), api.ErrRange}, {code(), at(-10001, 0), api.ErrRange}, {code(), at(0, 10001), api.ErrRange}, {code(), at(0, -10001), api.ErrRange}, {code(), at(math.MinInt, math.MinInt), api.ErrRange},
	} {
		got, e := grid.Curtail(row.c, row.p)
		check(t, "Curtail", e, row.e)
		if e != api.OK {
			checkZero(t, "Curtail", got)
		}
	}
}

func TestP65Ramps(t *testing.T) {
	for _, row := range []struct {
		ramp int
		l    []int
		want int
	}{
		{2, nil, -1}, {2, []int{10000}, -1}, {2, []int{1, 3, 5, 3, 0, 9}, 4}, {2, []int{1, 3, 6}, 2}, {2, []int{-1, 1, -1, -3}, -1}, {2, []int{-1, 2}, 1}, {0, []int{5, 5, 5, 4}, 3}, {0, []int{5, 5}, -1}, {20000, []int{-10000, 10000}, -1}, {19999, []int{-10000, 10000}, 1}, {19999, []int{10000, -10000}, 1}, {999999999, []int{10000, -10000}, -1},
	} {
		got, e := grid.Ramps(changed(func(c *grid.Code) { c.Ramp = row.ramp }), row.l)
		check(t, "Ramps", e, api.OK)
		check(t, "Ramps", got, row.want)
	}
	long := make([]int, 1024)
	long[1023] = 3
	got, e := grid.Ramps(code(), long)
	check(t, "Ramps", e, api.OK)
	check(t, "Ramps", got, 1023)
	for _, row := range []struct {
		l []int
		e api.Errno
	}{{slices.Repeat([]int{10001}, 1025), api.ErrMany}, {[]int{0, 10001}, api.ErrRange}, {[]int{-10001}, api.ErrRange}, {[]int{0, 100, math.MinInt}, api.ErrRange}, {[]int{math.MaxInt}, api.ErrRange}} {
		got, e := grid.Ramps(code(), row.l)
		check(t, "Ramps", e, row.e)
		checkZero(t, "Ramps", got)
	}
}

func TestP65Ride(t *testing.T) {
	steps := changed(func(c *grid.Code) { c.Levels = levels(0, 10, 1, 40, 4, 80) })
	for _, row := range []struct {
		c     grid.Code
		volts []int
		on    string
		want  int
	}{
		{code(), []int{100, 50, 50, 50, 100}, "xxx.x", -1}, {code(), []int{100, 50, 50, 50, 100}, ".xx.x", 0}, {code(), []int{100, 50, 50, 50, 100}, "x.x.x", 1}, {code(), []int{100, 50, 50, 50, 100}, "xx..x", 2}, {code(), []int{100, 50, 50, 50, 100}, "xxx..", 4}, {code(), []int{100, 50, 50, 50, 100}, "xxxxx", -1}, {code(), nil, "", -1}, {code(), []int{90}, ".", 0}, {code(), []int{89}, ".", 0}, {code(), []int{20}, ".", 0}, {code(), []int{19}, ".", -1}, {code(), []int{0}, ".", -1},
		{code(), []int{19, 89, 89, 89, 90}, "....x", -1}, {code(), []int{19, 89, 89, 89, 90, 50}, "....x.", 5}, {code(), []int{50, 50, 59}, "xx.", -1}, {code(), []int{50, 50, 60}, "xx.", 2}, {code(), []int{50, 50, 60, 60, 59, 89}, "xxxx..", -1}, {code(), []int{50, 50, 90, 50, 50}, "xxxx.", 4}, {code(), []int{50, 50, 90, 50, 50, 50}, "xxxxx.", -1}, {code(), []int{10, 90, 50}, ".x.", 2}, {code(), []int{10, 200, 10}, "...", 1},
		{steps, []int{40, 40, 40, 79, 80}, "xxxx.", 4}, {steps, []int{40, 40, 40, 79, 79}, "xxxx.", -1}, {steps, []int{40, 40, 40, 39, 80}, "xxx..", -1}, {steps, []int{10, 39}, "x.", -1}, {steps, []int{10, 40}, "x.", 1}, {steps, []int{9, 89}, "..", -1},
		{changed(func(c *grid.Code) { c.Low, c.Levels = 0, levels(0, 0) }), []int{0}, ".", 0},
	} {
		got, e := grid.Ride(row.c, row.volts, marks(row.on))
		check(t, "Ride", e, api.OK)
		check(t, "Ride", got, row.want)
	}
	long := slices.Repeat([]int{198}, 1024)
	on := make([]bool, 1024)
	on[0], on[1] = true, true
	got, e := grid.Ride(greatest(), long, on)
	check(t, "Ride", e, api.OK)
	check(t, "Ride", got, -1)
}

func TestP65RideErrors(t *testing.T) {
	for _, row := range []struct {
		volts []int
		on    int
		e     api.Errno
	}{{slices.Repeat([]int{201}, 1025), 0, api.ErrMany}, {make([]int, 1025), 1025, api.ErrMany}, {make([]int, 1024), 1025, api.ErrShape}, {[]int{100, 201}, 0, api.ErrRange}, {[]int{-1}, 1, api.ErrRange}, {[]int{100}, 0, api.ErrShape}, {[]int{100}, 2, api.ErrShape}, {nil, 1, api.ErrShape}, {[]int{math.MinInt}, 1, api.ErrRange}, {[]int{math.MaxInt}, 1, api.ErrRange}} {
		got, e := grid.Ride(code(), row.volts, make([]bool, row.on))
		check(t, "Ride", e, row.e)
		checkZero(t, "Ride", got)
	}
}

func TestP65Errors(t *testing.T) {
	for _, row := range badCodes() {
		clause, e := grid.Meets(row.c, at(10001, 0), 201)
		check(t, "Meets", e, row.e)
		power, e := grid.Curtail(row.c, at(10001, 0))
		check(t, "Curtail", e, row.e)
		ramp, e := grid.Ramps(row.c, slices.Repeat([]int{10001}, 1025))
		check(t, "Ramps", e, row.e)
		ride, e := grid.Ride(row.c, slices.Repeat([]int{201}, 1025), nil)
		check(t, "Ride", e, row.e)
		checkZero(t, "of a bad code", clause, power, ramp, ride)
	}
}

func TestP65Otherwise(t *testing.T) {
	r := rand.New(rand.NewSource(7))
	for range 1000 {
		c := randomCode(r)
		check(t, "CheckCode", grid.CheckCode(c), api.OK)
		p, volts := at(number(r, -13, 13), number(r, -13, 13)), number(r, 0, 200)
		want := 0
		switch {
		case !slowInside(c.Corners, p):
			want = 1
		case volts < c.Low:
			want = 2
		case volts > c.High:
			want = 3
		}
		clause, e := grid.Meets(c, p, volts)
		check(t, "Meets", e, api.OK)
		check(t, "Meets", clause, want)
		greatest := p.X
		for greatest >= -13 && !slowInside(c.Corners, at(greatest, p.Y)) {
			greatest--
		}
		power, e := grid.Curtail(c, p)
		if greatest < -13 {
			check(t, "Curtail", e, api.ErrInfeasible)
		} else {
			check(t, "Curtail", e, api.OK)
			check(t, "Curtail", power, greatest)
		}
		trace := randomTrace(r, c)
		on := make([]bool, len(trace))
		for i := range on {
			on[i] = slowRide(c, trace[:i+1], on[:i+1]) >= 0 || r.Intn(20) > 0
		}
		if len(on) > 0 && r.Intn(2) == 0 {
			on[r.Intn(len(on))] = false
		}
		tick, e := grid.Ride(c, trace, on)
		check(t, "Ride", e, api.OK)
		check(t, "Ride", tick, slowRide(c, trace, on))
	}
}
