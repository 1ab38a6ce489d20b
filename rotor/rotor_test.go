package rotor_test

import (
	"math"
	"testing"

	"nacelle/api"
	"nacelle/rotor"
)

func TestP31CheckPolar(t *testing.T) {
	for _, row := range []struct {
		name       string
		lift, drag []int
		e          api.Errno
	}{
		{"one class", []int{0}, []int{0}, api.OK}, {"the greatest ones", []int{1000, 1000}, []int{1000, 1000}, api.OK}, {"drags fall", []int{1, 2}, []int{2, 1}, api.OK}, {"32 classes", make([]int, 32), make([]int, 32), api.OK},
		{"nothing", nil, nil, api.ErrEmpty}, {"no lift", []int{}, []int{-1}, api.ErrEmpty},
		{"33 classes", make([]int, 33), make([]int, 33), api.ErrMany}, {"33 lifts", make([]int, 33), nil, api.ErrMany}, {"33 lifts that are none", append(make([]int, 32), -1), nil, api.ErrMany},
		{"a drag less", []int{0, 1}, []int{0}, api.ErrShape}, {"a drag more", []int{0, 1}, []int{0, 1, 2}, api.ErrShape}, {"no drags", []int{-1}, nil, api.ErrShape}, {"33 drags", make([]int, 32), make([]int, 33), api.ErrShape},
		{"lift -1", []int{-1, 0}, []int{0, 0}, api.ErrRange}, {"lift 1001", []int{0, 1001}, []int{0, 0}, api.ErrRange}, {"lift of extremes", []int{math.MaxInt, math.MinInt}, []int{0, 0}, api.ErrRange},
		{"lifts fall", []int{1, 0}, []int{0, 0}, api.ErrOrder}, {"lifts fall before one out of its range", []int{2, 1, -1}, []int{0, 0, 0}, api.ErrOrder}, {"lifts fall behind one out of its range", []int{2, 1001, 1}, []int{0, 0, 0}, api.ErrRange}, {"lift falls out of its range", []int{2, -1}, []int{0, 0}, api.ErrRange},
		{"drag -1", []int{0, 1}, []int{0, -1}, api.ErrRange}, {"drag 1001", []int{0, 1}, []int{1001, 0}, api.ErrRange}, {"drag of extremes", []int{0}, []int{math.MinInt}, api.ErrRange}, {"lifts before drags", []int{1, 0}, []int{-1, 0}, api.ErrOrder},
	} {
		p := rotor.Polar{Lift: row.lift, Drag: row.drag}
		check(t, row.name, rotor.CheckPolar(p), row.e)
		blade := b()
		blade.Polar = p
		check(t, row.name+", of a blade", rotor.CheckBlade(blade), row.e)
		if row.e != api.OK {
			check(t, row.name+", of a blade without rings", rotor.CheckBlade(rotor.Blade{Polar: p}), row.e)
		}
	}
}

func TestP31CheckBlade(t *testing.T) {
	ring := func(radius, chord, twist, tip int) rotor.Ring {
		return rotor.Ring{Radius: radius, Chord: chord, Twist: twist, Tip: tip}
	}
	for _, row := range []struct {
		name  string
		rings []rotor.Ring
		e     api.Errno
	}{
		{"as it is", b().Rings, api.OK}, {"the least numbers", []rotor.Ring{ring(1, 1, -64, 0)}, api.OK}, {"the greatest numbers", []rotor.Ring{ring(200, 100, 64, 256)}, api.OK}, {"16 rings", long(1, 16).Rings, api.OK},
		{"no rings", nil, api.ErrEmpty}, {"17 rings", long(1, 17).Rings, api.ErrMany}, {"17 rings that are none", make([]rotor.Ring, 17), api.ErrMany},
		{"radius 0", []rotor.Ring{ring(0, 1, 0, 0)}, api.ErrRange}, {"radius 201", []rotor.Ring{ring(201, 1, 0, 0)}, api.ErrRange}, {"radius of extremes", []rotor.Ring{ring(math.MinInt, 1, 0, 0)}, api.ErrRange},
		{"chord 0", []rotor.Ring{ring(1, 0, 0, 0)}, api.ErrRange}, {"chord 101", []rotor.Ring{ring(1, 101, 0, 0)}, api.ErrRange}, {"twist -65", []rotor.Ring{ring(1, 1, -65, 0)}, api.ErrRange}, {"twist 65", []rotor.Ring{ring(1, 1, 65, 0)}, api.ErrRange},
		{"tip -1", []rotor.Ring{ring(1, 1, 0, -1)}, api.ErrRange}, {"tip 257", []rotor.Ring{ring(1, 1, 0, 257)}, api.ErrRange}, {"tip of extremes", []rotor.Ring{ring(1, 1, 0, math.MaxInt)}, api.ErrRange},
		{"equal radii", []rotor.Ring{ring(5, 1, 0, 0), ring(5, 1, 0, 0)}, api.ErrOrder}, {"radii fall", []rotor.Ring{ring(5, 1, 0, 0), ring(4, 1, 0, 0)}, api.ErrOrder}, {"radii rise", []rotor.Ring{ring(4, 1, 0, 0), ring(5, 1, 0, 0)}, api.OK},
		{"order before a range", []rotor.Ring{ring(5, 1, 0, 0), ring(5, 1, 0, 0), ring(0, 1, 0, 0)}, api.ErrOrder}, {"range before an order", []rotor.Ring{ring(5, 1, 0, 0), ring(6, 0, 0, 0), ring(6, 1, 0, 0)}, api.ErrRange},
		{"range and order of one ring", []rotor.Ring{ring(5, 1, 0, 0), ring(5, 1, 0, 257)}, api.ErrRange}, {"the last ring", append(long(1, 15).Rings, ring(15, 1, 0, 0)), api.ErrOrder},
	} {
		blade := b()
		blade.Rings = row.rings
		check(t, row.name, rotor.CheckBlade(blade), row.e)
	}
	check(t, "no blade", rotor.CheckBlade(rotor.Blade{}), api.ErrEmpty)
	check(t, "the greatest blade", rotor.CheckBlade(most()), api.OK)
}

func TestP31CheckFlow(t *testing.T) {
	for _, row := range []struct {
		wind, spin, pitch int
		e                 api.Errno
	}{
		{1, 1, -64, api.OK}, {50, 1000, 64, api.OK}, {0, 1, 0, api.ErrRange}, {51, 1, 0, api.ErrRange}, {-1, 1, 0, api.ErrRange}, {1, 0, 0, api.ErrRange}, {1, 1001, 0, api.ErrRange}, {1, 1, -65, api.ErrRange}, {1, 1, 65, api.ErrRange},
		{math.MaxInt, 1, 0, api.ErrRange}, {1, math.MinInt, 0, api.ErrRange}, {1, 1, math.MinInt, api.ErrRange}, {0, 0, 65, api.ErrRange},
	} {
		check(t, "CheckFlow", rotor.CheckFlow(rotor.Flow{Wind: row.wind, Spin: row.spin, Pitch: row.pitch}), row.e)
	}
}

// TestP32P33P34FirstErrors: errors of a blade come before those of a flow, and both before all others.
func TestP32P33P34FirstErrors(t *testing.T) {
	for _, row := range []struct {
		blade rotor.Blade
		flow  rotor.Flow
		e     api.Errno
	}{{rotor.Blade{}, rotor.Flow{}, api.ErrEmpty}, {long(33, 1), rotor.Flow{}, api.ErrMany}, {b(), rotor.Flow{}, api.ErrRange}, {b(), pitch(65), api.ErrRange}} {
		n, e := rotor.Inflow(row.blade, row.flow, 9, at(0, 0))
		check(t, "Inflow", e, row.e)
		m, e := rotor.Class(row.blade, row.flow, 9, -1)
		check(t, "Class", e, row.e)
		o, e := rotor.Balance(row.blade, row.flow, 9, at(0, 0))
		check(t, "Balance", e, row.e)
		i, e := rotor.Find(row.blade, row.flow, 9, 0)
		check(t, "Find", e, row.e)
		check(t, "CheckBracket", rotor.CheckBracket(row.blade, row.flow, 9, at(0, 0)), row.e)
		j, e := rotor.Refine(row.blade, row.flow, 9, at(0, 0))
		check(t, "Refine", e, row.e)
		thrust, e := rotor.Thrust(row.blade, row.flow, 0)
		check(t, "Thrust", e, row.e)
		torque, e := rotor.Torque(row.blade, row.flow, 0)
		check(t, "Torque", e, row.e)
		rings, e := rotor.Rings(row.blade, row.flow, 0)
		check(t, "Rings", e, row.e)
		best, torques, e := rotor.Best(row.blade, row.flow, 0, 1, 0)
		check(t, "Best", e, row.e)
		limit, e := rotor.Limit(row.blade, row.flow, 0, 1, 0, 0)
		check(t, "Limit", e, row.e)
		checkZero(t, "beside the first error", n, m, o, i, j, thrust, torque, rings, best, torques, limit)
	}
}
