package rotor_test

import (
	"math"
	"math/rand"
	"testing"

	"nacelle/api"
	"nacelle/rotor"
)

// two returns the blade of the examples with one ring more, which has no force.
func two() rotor.Blade {
	out := b()
	out.Rings = append(out.Rings, rotor.Ring{Radius: 3, Chord: 1})
	return out
}

func TestP33Examples(t *testing.T) {
	for _, row := range []struct {
		blade          rotor.Blade
		flow           rotor.Flow
		depth          int
		thrust, torque [2]int
	}{
		{b(), f(), 3, [2]int{14336, 24576}, [2]int{512, 512}}, {b(), f(), 2, [2]int{0, 6144}, [2]int{-522240, 512}}, {b(), f(), 1, [2]int{0, 2048}, [2]int{-522240, 512}}, {b(), pitch(1), 3, [2]int{0, 14336}, [2]int{0, 1024}}, {b(), pitch(2), 12, [2]int{0, 2048 * 4095}, [2]int{0, 0}},
		{two(), f(), 3, [2]int{14336, 24576 + 21504}, [2]int{512, 512}}, {long(1, 1), rotor.Flow{Wind: 50, Spin: 1}, 1, [2]int{0, 1024}, [2]int{0, 0}},
	} {
		thrust, e := rotor.Thrust(row.blade, row.flow, row.depth)
		check(t, "Thrust", e, api.OK)
		check(t, "Thrust", thrust, row.thrust)
		torque, e := rotor.Torque(row.blade, row.flow, row.depth)
		check(t, "Torque", e, api.OK)
		check(t, "Torque", torque, row.torque)
	}
	rings, e := rotor.Rings(two(), f(), 3)
	check(t, "Rings", e, api.OK)
	checkList(t, "Rings", rings, [][2]int{{512, 512}, {0, 0}})
}

// TestP33ClassesOfABracket: the extremes of the torque are at the ends of classes, also within the inflows of a bracket.
func TestP33ClassesOfABracket(t *testing.T) {
	for _, row := range []struct {
		twist      int
		lift, drag []int
		want       [2]int
	}{
		{0, []int{2}, []int{1}, [2]int{2*10 - 1024, 2*20 - 1024}},
		{15, []int{1, 1}, []int{0, 1}, [2]int{16 - 1024, 15}},       // the greatest one at the end of the first class, the least one where the second one begins
		{15, []int{1, 1}, []int{1, 0}, [2]int{10 - 1024, 20}},       // and the other way
		{14, []int{1, 1, 1}, []int{1, 0, 1}, [2]int{10 - 1024, 15}}, // the greatest one in a class between
		{14, []int{1, 1, 1}, []int{0, 1, 0}, [2]int{15 - 1024, 20}},
		{30, []int{1, 2}, []int{0, 0}, [2]int{10, 20}}, {20, []int{1, 2}, []int{0, 1}, [2]int{10, 20}}, {19, []int{1, 2}, []int{0, 1}, [2]int{40 - 1024, 19}}, {9, []int{1, 2}, []int{1, 0}, [2]int{20, 40}}, {10, []int{1, 2}, []int{1, 0}, [2]int{10 - 1024, 40}}, {-50, []int{1, 2}, []int{1, 0}, [2]int{20, 40}},
	} {
		blade := rotor.Blade{Polar: rotor.Polar{Lift: row.lift, Drag: row.drag}, Rings: []rotor.Ring{{Radius: 1, Chord: 1, Twist: row.twist, Tip: 1}}}
		flow := rotor.Flow{Wind: 1, Spin: 50} // the inflows at the depth 1 are from 10 to 20
		torque, e := rotor.Torque(blade, flow, 1)
		check(t, "Torque", e, api.OK)
		check(t, "Torque", torque, row.want)
		blade.Rings[0].Twist -= 7
		flow.Pitch = 7
		torque, _ = rotor.Torque(blade, flow, 1)
		check(t, "Torque with a pitch in place of a twist", torque, row.want)
	}
}

func TestP33Errors(t *testing.T) {
	none := b()
	none.Rings = append(none.Rings, rotor.Ring{Radius: 3, Chord: 100, Twist: -64, Tip: 256})
	first := b()
	first.Rings = append([]rotor.Ring{{Radius: 1, Chord: 100, Tip: 256}}, first.Rings...)
	for _, row := range []struct {
		blade rotor.Blade
		flow  rotor.Flow
		depth int
		e     api.Errno
	}{
		{b(), f(), 0, api.ErrRange}, {b(), f(), 13, api.ErrRange}, {b(), f(), math.MinInt, api.ErrRange}, {b(), f(), math.MaxInt, api.ErrRange}, {b(), pitch(-1), 0, api.ErrRange}, {b(), pitch(-1), 3, api.ErrNone}, {none, f(), 3, api.ErrNone}, {first, f(), 12, api.ErrNone}, {none, f(), 13, api.ErrRange}, {most(), rotor.Flow{Wind: 50, Spin: 1}, 1, api.ErrNone},
	} {
		thrust, e := rotor.Thrust(row.blade, row.flow, row.depth)
		check(t, "Thrust", e, row.e)
		torque, e := rotor.Torque(row.blade, row.flow, row.depth)
		check(t, "Torque", e, row.e)
		rings, e := rotor.Rings(row.blade, row.flow, row.depth)
		check(t, "Rings", e, row.e)
		checkZero(t, "beside an error", thrust, torque, rings)
	}
}

func TestP33Otherwise(t *testing.T) {
	r := rand.New(rand.NewSource(2))
	for range 200 {
		blade, flow := randomBalanced(r, 4)
		depth := 1 + r.Intn(7)
		wantThrust, wantTorques, _ := slowForces(blade, flow, depth)
		thrust, e := rotor.Thrust(blade, flow, depth)
		check(t, "Thrust", e, api.OK)
		check(t, "Thrust", thrust, wantThrust)
		torque, e := rotor.Torque(blade, flow, depth)
		check(t, "Torque", e, api.OK)
		check(t, "Torque", torque, total(wantTorques))
		rings, e := rotor.Rings(blade, flow, depth)
		check(t, "Rings", e, api.OK)
		checkList(t, "Rings", rings, wantTorques)
	}
}

func TestP34Examples(t *testing.T) {
	for _, row := range []struct {
		depth, from, to, pitch int
		torques                [2]int
		e                      api.Errno
	}{
		{3, -1, 1, 0, [2]int{512, 512}, api.OK}, {3, 0, 0, 0, [2]int{512, 512}, api.OK}, {3, 1, 64, 1, [2]int{0, 1024}, api.OK}, {3, 2, 64, 2, [2]int{0, 0}, api.OK}, {3, -64, 64, 0, [2]int{512, 512}, api.OK}, {2, -64, 64, 1, [2]int{0, 1024}, api.OK}, {2, -64, 0, 0, [2]int{-522240, 512}, api.OK}, {3, 64, 64, 64, [2]int{0, 0}, api.OK},
		{3, -64, -1, 0, [2]int{}, api.ErrNone}, {3, -64, -64, 0, [2]int{}, api.ErrNone},
	} {
		angle, torques, e := rotor.Best(b(), pitch(7), row.depth, row.from, row.to)
		check(t, "Best", e, row.e)
		check(t, "Best", angle, row.pitch)
		check(t, "Best", torques, row.torques)
	}
	for _, row := range []struct {
		depth, from, to, most, pitch int
		e                            api.Errno
	}{
		{3, -1, 1, 512, 0, api.OK}, {3, -1, 1, 511, 0, api.ErrNone}, {3, -1, 2, 511, 2, api.OK}, {3, -1, 64, 0, 2, api.OK}, {3, -1, 64, -1, 0, api.ErrNone}, {3, 1, 64, 1024, 1, api.OK}, {3, 1, 64, 1023, 2, api.OK}, {3, -64, 64, 1 << 60, 0, api.OK}, {3, -64, 64, -1 << 60, 0, api.ErrNone}, {3, -64, -1, 1 << 60, 0, api.ErrNone}, {3, 64, 64, 0, 64, api.OK},
	} {
		angle, e := rotor.Limit(b(), pitch(7), row.depth, row.from, row.to, row.most)
		check(t, "Limit", e, row.e)
		check(t, "Limit", angle, row.pitch)
	}
}

// TestP34Losses: the best torque may be below 0, and so may a limit.
func TestP34Losses(t *testing.T) {
	blade := long(1, 1)
	blade.Polar.Drag[0], blade.Rings[0].Tip = 1, 1
	angle, torques, e := rotor.Best(blade, f(), 3, -5, 5)
	check(t, "Best of losses", e, api.OK)
	check(t, "Best of losses", angle, -5)
	check(t, "Best of losses", torques, [2]int{-1024, -1024})
	angle, e = rotor.Limit(blade, f(), 3, -5, 5, -1024)
	check(t, "Limit of losses", e, api.OK)
	check(t, "Limit of losses", angle, -5)
	angle, e = rotor.Limit(blade, f(), 3, -5, 5, -1025)
	check(t, "Limit below all losses", e, api.ErrNone)
	checkZero(t, "Limit below all losses", angle)
}

func TestP34Errors(t *testing.T) {
	for _, row := range []struct {
		flow            rotor.Flow
		depth, from, to int
		most            int
		e               api.Errno
	}{
		{pitch(65), 3, 0, 1, 0, api.ErrRange}, {f(), 0, 1, 0, 0, api.ErrRange}, {f(), 13, 0, 1, 0, api.ErrRange}, {f(), 3, -65, 0, 0, api.ErrRange}, {f(), 3, 0, 65, 0, api.ErrRange}, {f(), 3, 65, 0, 0, api.ErrRange}, {f(), 3, 0, -65, 0, api.ErrRange}, {f(), 3, math.MinInt, math.MaxInt, 0, api.ErrRange}, {f(), 3, math.MaxInt, math.MinInt, 0, api.ErrRange},
		{f(), 3, 1, 0, 0, api.ErrOrder}, {f(), 3, 64, -64, math.MaxInt, api.ErrOrder}, {f(), 13, 1, 0, 0, api.ErrRange},
	} {
		angle, torques, e := rotor.Best(b(), row.flow, row.depth, row.from, row.to)
		check(t, "Best", e, row.e)
		limit, e := rotor.Limit(b(), row.flow, row.depth, row.from, row.to, row.most)
		check(t, "Limit", e, row.e)
		checkZero(t, "beside an error", angle, torques, limit)
	}
	for _, most := range []int{1<<60 + 1, -1<<60 - 1, math.MaxInt, math.MinInt} {
		for _, to := range []int{-1, 1} { // also where there is no such pitch
			angle, e := rotor.Limit(b(), f(), 3, -1, to, most)
			check(t, "Limit of no limit", e, api.ErrRange)
			checkZero(t, "Limit of no limit", angle)
		}
	}
}

func TestP34Otherwise(t *testing.T) {
	r := rand.New(rand.NewSource(3))
	for range 60 {
		blade, flow := randomBlade(r, 3), randomFlow(r)
		depth, from := 1+r.Intn(5), r.Intn(129)-64
		to := from + r.Intn(65-from)
		wantBest, wantTorques, most, wantLimit := -100, [2]int{}, 0, -100
		for angle := from; angle <= to; angle++ {
			_, torques, ok := slowForces(blade, rotor.Flow{Wind: flow.Wind, Spin: flow.Spin, Pitch: angle}, depth)
			if !ok {
				continue
			}
			torque := total(torques)
			if wantBest == -100 {
				most = torque[1] - r.Intn(2)
			}
			if wantBest == -100 || torque[0] > wantTorques[0] {
				wantBest, wantTorques = angle, torque
			}
			if wantLimit == -100 && torque[1] <= most {
				wantLimit = angle
			}
		}
		angle, torques, e := rotor.Best(blade, flow, depth, from, to)
		limit, f := rotor.Limit(blade, flow, depth, from, to, most)
		if wantBest == -100 {
			check(t, "Best of no pitch", e, api.ErrNone)
			checkZero(t, "Best of no pitch", angle, torques)
		} else {
			check(t, "Best", e, api.OK)
			check(t, "Best", angle, wantBest)
			check(t, "Best", torques, wantTorques)
		}
		if wantLimit == -100 {
			check(t, "Limit of no pitch", f, api.ErrNone)
			checkZero(t, "Limit of no pitch", limit)
		} else {
			check(t, "Limit", f, api.OK)
			check(t, "Limit", limit, wantLimit)
		}
	}
}
