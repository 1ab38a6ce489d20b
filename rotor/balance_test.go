package rotor_test

import (
	"math"
	"math/rand"
	"slices"
	"testing"

	"nacelle/api"
	"nacelle/rotor"
)

func TestP32Inflow(t *testing.T) {
	for _, row := range []struct {
		flow rotor.Flow
		at   rotor.Induction
		want int
	}{
		{f(), at(0, 3), 2}, {f(), at(1, 3), 1}, {f(), at(4, 3), 1}, {f(), at(0, 1), 2}, {f(), at(1, 1), 1}, {f(), at(1, 12), 1}, {f(), at(2048, 12), 1}, {pitch(64), at(0, 3), 2}, {pitch(-64), at(1, 3), 1},
		{rotor.Flow{Wind: 50, Spin: 1}, at(0, 12), 25600}, {rotor.Flow{Wind: 50, Spin: 1}, at(1, 12), 25593}, {rotor.Flow{Wind: 1, Spin: 1000}, at(0, 1), 0}, {rotor.Flow{Wind: 2, Spin: 1000}, at(0, 1), 1}, {rotor.Flow{Wind: 2, Spin: 1000}, at(1, 12), 1}, {rotor.Flow{Wind: 2, Spin: 1000}, at(128, 12), 0},
	} {
		n, e := rotor.Inflow(b(), row.flow, 0, row.at)
		check(t, "Inflow", e, api.OK)
		check(t, "Inflow", n, row.want)
	}
}

func TestP32Class(t *testing.T) {
	blade := b()
	blade.Rings[0].Twist = 10
	blade.Rings = append(blade.Rings, rotor.Ring{Radius: 3, Chord: 1, Twist: -64})
	for _, row := range []struct{ ring, angle, inflow, want int }{
		{0, 0, 0, 0}, {0, 0, 10, 0}, {0, 0, 11, 1}, {0, 0, 12, 2}, {0, 0, 13, 2}, {0, 0, 999999999, 2}, {0, 5, 15, 0}, {0, 5, 16, 1}, {0, -5, 5, 0}, {0, -5, 6, 1}, {0, -64, 0, 2}, {0, -11, 0, 1}, {0, 64, 74, 0}, {0, 64, 75, 1}, {0, 64, 76, 2}, {1, 0, 0, 2}, {1, 64, 0, 0}, {1, 64, 1, 1}, {1, 63, 0, 1},
	} {
		n, e := rotor.Class(blade, pitch(row.angle), row.ring, row.inflow)
		check(t, "Class", e, api.OK)
		check(t, "Class", n, row.want)
	}
	for _, inflow := range []int{0, 1, 999999999} {
		n, _ := rotor.Class(long(1, 1), f(), 0, inflow)
		check(t, "the only class", n, 0)
	}
}

func TestP32Balance(t *testing.T) {
	for _, row := range []struct {
		flow rotor.Flow
		at   rotor.Induction
		want int
	}{
		{f(), at(0, 3), -32768}, {f(), at(1, 3), -2048}, {f(), at(2, 3), 8192}, {f(), at(4, 3), 16384}, {f(), at(0, 1), -2048}, {f(), at(1, 1), 1024}, {pitch(-1), at(1, 1), 0}, {pitch(1), at(1, 1), 2048}, {pitch(1), at(0, 1), -1024}, {pitch(2), at(0, 12), 0},
	} {
		n, e := rotor.Balance(b(), row.flow, 0, row.at)
		check(t, "Balance", e, api.OK)
		check(t, "Balance", n, row.want)
	}
	n, _ := rotor.Balance(most(), rotor.Flow{Wind: 1, Spin: 1}, 15, at(0, 12))
	check(t, "the least balance", n, -(1<<24)*100*256*1000)
	n, _ = rotor.Balance(long(1, 16), f(), 15, at(2048, 12))
	check(t, "a balance without lift", n, 1024*2048*2048*16)
}

func TestP32Find(t *testing.T) {
	for _, row := range []struct {
		flow  rotor.Flow
		depth int
		want  rotor.Induction
		e     api.Errno
	}{
		{f(), 1, at(0, 1), api.OK}, {f(), 2, at(0, 2), api.OK}, {f(), 3, at(1, 3), api.OK}, {pitch(1), 3, at(0, 3), api.OK}, {pitch(2), 12, at(0, 12), api.OK},
		{f(), 12, at(599, 12), api.OK}, // 2 a (1 - a) is a quarter at 0.1464..
		{pitch(-1), 3, at(0, 0), api.ErrNone}, {pitch(-1), 1, at(0, 0), api.ErrNone}, {pitch(-1), 12, at(0, 0), api.ErrNone}, {pitch(-64), 2, at(0, 0), api.ErrNone},
	} {
		i, e := rotor.Find(b(), row.flow, 0, row.depth)
		check(t, "Find", e, row.e)
		check(t, "Find", i, row.want)
	}
	exact := b()
	exact.Polar = rotor.Polar{Lift: []int{3}, Drag: []int{0}} // balanced at 1/4: 1024 * 3/16 * 4 is 256 * 3
	exact.Rings[0].Radius = 4
	for depth := 2; depth <= 12; depth++ {
		i, _ := rotor.Find(exact, f(), 0, depth)
		check(t, "Find of the balance 0", i, at(1<<(depth-2), depth))
	}
}

func TestP32CheckBracket(t *testing.T) {
	for _, row := range []struct {
		flow rotor.Flow
		at   rotor.Induction
		e    api.Errno
	}{
		{f(), at(1, 3), api.OK}, {f(), at(0, 2), api.OK}, {f(), at(0, 1), api.OK}, {f(), at(599, 12), api.OK}, {f(), at(0, 3), api.ErrProof}, {f(), at(2, 3), api.ErrProof}, {f(), at(3, 3), api.ErrProof}, {f(), at(4, 3), api.ErrProof}, {f(), at(1, 1), api.ErrProof}, {f(), at(1, 2), api.ErrProof}, {f(), at(2, 2), api.ErrProof}, {f(), at(598, 12), api.ErrProof}, {f(), at(2048, 12), api.ErrProof},
		{pitch(-1), at(0, 1), api.ErrProof}, {pitch(-1), at(1, 1), api.ErrProof}, {pitch(-1), at(3, 3), api.ErrProof}, {pitch(1), at(0, 3), api.OK}, {pitch(1), at(1, 3), api.ErrProof},
	} {
		check(t, "CheckBracket", rotor.CheckBracket(b(), row.flow, 0, row.at), row.e)
		i, e := rotor.Refine(b(), row.flow, 0, row.at)
		if row.e == api.OK && row.at.Depth == 12 {
			row.e = api.ErrLimit
		}
		check(t, "Refine", e, row.e)
		if e != api.OK {
			checkZero(t, "Refine", i)
		}
	}
}

func TestP32Refine(t *testing.T) {
	for _, row := range []struct {
		flow     rotor.Flow
		at, want rotor.Induction
	}{{f(), at(0, 1), at(0, 2)}, {f(), at(0, 2), at(1, 3)}, {f(), at(1, 3), at(2, 4)}, {f(), at(299, 11), at(599, 12)}, {pitch(2), at(0, 11), at(0, 12)}} {
		i, e := rotor.Refine(b(), row.flow, 0, row.at)
		check(t, "Refine", e, api.OK)
		check(t, "Refine", i, row.want)
	}
	_, e := rotor.Refine(b(), f(), 0, at(600, 12))
	check(t, "Refine at the greatest depth, of no bracket", e, api.ErrProof)
}

func TestP32Errors(t *testing.T) {
	for _, row := range []struct {
		ring int
		at   rotor.Induction
		e    api.Errno
	}{
		{1, at(0, 0), api.ErrUnknown}, {-1, at(0, 0), api.ErrUnknown}, {math.MinInt, at(0, 3), api.ErrUnknown}, {math.MaxInt, at(0, 3), api.ErrUnknown}, {0, at(0, 0), api.ErrRange}, {0, at(0, 13), api.ErrRange}, {0, at(0, -1), api.ErrRange}, {0, at(0, math.MaxInt), api.ErrRange}, {0, at(0, math.MinInt), api.ErrRange},
		{0, at(-1, 3), api.ErrRange}, {0, at(5, 3), api.ErrRange}, {0, at(2, 1), api.ErrRange}, {0, at(2049, 12), api.ErrRange}, {0, at(math.MaxInt, 3), api.ErrRange}, {0, at(math.MinInt, 3), api.ErrRange},
	} {
		n, e := rotor.Inflow(b(), f(), row.ring, row.at)
		check(t, "Inflow", e, row.e)
		m, e := rotor.Balance(b(), f(), row.ring, row.at)
		check(t, "Balance", e, row.e)
		check(t, "CheckBracket", rotor.CheckBracket(b(), f(), row.ring, row.at), row.e)
		i, e := rotor.Refine(b(), f(), row.ring, row.at)
		check(t, "Refine", e, row.e)
		checkZero(t, "beside an error", n, m, i)
	}
	for _, row := range []struct {
		ring, n int
		e       api.Errno
	}{{1, 0, api.ErrUnknown}, {-1, -1, api.ErrUnknown}, {0, -1, api.ErrRange}, {0, 1000000000, api.ErrRange}, {0, math.MinInt, api.ErrRange}, {0, math.MaxInt, api.ErrRange}} {
		n, e := rotor.Class(b(), f(), row.ring, row.n)
		check(t, "Class", e, row.e)
		i, e := rotor.Find(b(), f(), row.ring, row.n)
		check(t, "Find", e, row.e)
		checkZero(t, "beside an error", n, i)
	}
	for _, depth := range []int{0, 13} {
		i, e := rotor.Find(b(), pitch(-1), 0, depth)
		check(t, "Find at no depth", e, api.ErrRange)
		checkZero(t, "Find at no depth", i)
	}
}

func TestP32Otherwise(t *testing.T) {
	r := rand.New(rand.NewSource(1))
	for range 300 {
		blade, flow := randomBlade(r, 4), randomFlow(r)
		ring, depth := r.Intn(len(blade.Rings)), 1+r.Intn(8)
		for k := range 1<<(depth-1) + 1 {
			n, e := rotor.Inflow(blade, flow, ring, at(k, depth))
			check(t, "Inflow", e, api.OK)
			check(t, "Inflow", n, slowInflow(blade, flow, ring, at(k, depth)))
			c, _ := rotor.Class(blade, flow, ring, n)
			check(t, "Class", c, slowClass(blade, flow, ring, n))
			m, _ := rotor.Balance(blade, flow, ring, at(k, depth))
			check(t, "Balance", m, slowBalance(blade, flow, ring, at(k, depth)))
		}
		all, _ := slowBrackets(blade, flow, depth)
		found := all[ring]
		i, e := rotor.Find(blade, flow, ring, depth)
		if len(found) == 0 {
			check(t, "Find of no bracket", e, api.ErrNone)
		} else {
			check(t, "Find", e, api.OK)
			check(t, "Find", i, found[0])
		}
		for k := range 1<<(depth-1) + 1 {
			want := api.ErrProof
			if slices.Contains(found, at(k, depth)) {
				want = api.OK
			}
			check(t, "CheckBracket", rotor.CheckBracket(blade, flow, ring, at(k, depth)), want)
		}
	}
}
