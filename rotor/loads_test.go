package rotor_test

import (
	"math"
	"testing"

	"nacelle/api"
	"nacelle/rotor"
)

func pair(a, b int) rotor.Pair { return rotor.Pair{A: a, B: b} }

func TestP35Split(t *testing.T) {
	for _, row := range []struct {
		loads [3]int
		sum   int
		c     rotor.Pair
	}{
		{[3]int{4, 1, 1}, 6, pair(3, 0)}, {[3]int{1, 4, 1}, 6, pair(0, 3)}, {[3]int{1, 1, 4}, 6, pair(-3, -3)}, {[3]int{}, 0, pair(0, 0)}, {[3]int{7, 7, 7}, 21, pair(0, 0)}, {[3]int{1, 2, 3}, 6, pair(-2, -1)}, {[3]int{1000000, 1000000, -1000000}, 1000000, pair(2000000, 2000000)}, {[3]int{-1000000, -1000000, -1000000}, -3000000, pair(0, 0)},
	} {
		sum, c, e := rotor.Split(row.loads)
		check(t, "Split", e, api.OK)
		check(t, "Split", sum, row.sum)
		check(t, "Split", c, row.c)
		loads, e := rotor.Merge(row.sum, row.c)
		check(t, "Merge", e, api.OK)
		check(t, "Merge", loads, row.loads)
	}
	for _, loads := range [][3]int{{1000001, 0, 0}, {0, -1000001, 0}, {0, 0, 1000001}, {math.MinInt, math.MinInt, math.MaxInt}} {
		sum, c, e := rotor.Split(loads)
		check(t, "Split of no loads", e, api.ErrRange)
		checkZero(t, "Split of no loads", sum, c)
	}
}

func TestP35MergeErrors(t *testing.T) {
	for _, row := range []struct {
		sum int
		c   rotor.Pair
		e   api.Errno
	}{
		{6, pair(1, 0), api.ErrConflict}, {6, pair(2, 0), api.ErrConflict}, {6, pair(0, 1), api.ErrConflict}, {7, pair(3, 0), api.ErrConflict}, {-7, pair(3, 0), api.ErrConflict}, {-1, pair(0, 0), api.ErrConflict}, {1, pair(0, 0), api.ErrConflict}, {-3000000, pair(-1, 0), api.ErrConflict}, {0, pair(999999999, 1), api.ErrConflict},
		{0, pair(999999999, 0), api.ErrRange}, {0, pair(0, -999999999), api.ErrRange}, {3000000, pair(3, 0), api.ErrRange}, {-3000000, pair(1, 2), api.ErrRange}, {0, pair(1500000, 0), api.OK}, {0, pair(1500003, 0), api.ErrRange}, {0, pair(-1500003, 0), api.ErrRange}, {0, pair(1500000, 1500000), api.OK}, {0, pair(1500003, 1500003), api.ErrRange}, {0, pair(0, 1500003), api.ErrRange},
		{3000001, pair(0, 0), api.ErrRange}, {-3000001, pair(0, 0), api.ErrRange}, {3000000, pair(0, 0), api.OK}, {-3000000, pair(0, 0), api.OK}, {math.MaxInt, pair(math.MaxInt, 0), api.ErrRange}, {0, pair(1000000000, 0), api.ErrRange}, {0, pair(0, -1000000000), api.ErrRange}, {0, pair(math.MinInt, math.MinInt), api.ErrRange},
	} {
		loads, e := rotor.Merge(row.sum, row.c)
		check(t, "Merge", e, row.e)
		if e != api.OK {
			checkZero(t, "Merge", loads)
		}
	}
}

func TestP35Pairs(t *testing.T) {
	const most = 999999999
	for _, row := range []struct{ a, b, want rotor.Pair }{
		{pair(1, 2), pair(1, 2), pair(-3, 0)}, {pair(0, 1), pair(0, 1), pair(-1, -1)}, {pair(2, 3), pair(5, 7), pair(-11, 8)}, {pair(0, 0), pair(5, 7), pair(0, 0)}, {pair(1, 0), pair(5, 7), pair(5, 7)},
		{pair(most, -most), pair(most, most), pair(2*most*most, most*most)}, {pair(most, -most), pair(most, -most), pair(0, -3*most*most)}, {pair(-most, -most), pair(most, -most), pair(-2*most*most, -most*most)},
	} {
		p, e := rotor.Times(row.a, row.b)
		check(t, "Times", e, api.OK)
		check(t, "Times", p, row.want)
		p, _ = rotor.Times(row.b, row.a)
		check(t, "Times the other way", p, row.want)
	}
	for _, row := range []struct {
		a, conjugate rotor.Pair
		norm         int
	}{{pair(1, 2), pair(-1, -2), 3}, {pair(3, 0), pair(3, 0), 9}, {pair(0, 1), pair(-1, -1), 1}, {pair(0, 0), pair(0, 0), 0}, {pair(2, -3), pair(5, 3), 19}, {pair(most, -most), pair(2*most, most), 3 * most * most}, {pair(-most, -most), pair(0, most), most * most}} {
		p, e := rotor.Conjugate(row.a)
		check(t, "Conjugate", e, api.OK)
		check(t, "Conjugate", p, row.conjugate)
		n, e := rotor.Norm(row.a)
		check(t, "Norm", e, api.OK)
		check(t, "Norm", n, row.norm)
	}
}

func TestP35Turn(t *testing.T) {
	for _, row := range []struct {
		a      rotor.Pair
		thirds int
		want   rotor.Pair
	}{
		{pair(3, 0), 1, pair(0, 3)}, {pair(3, 0), 2, pair(-3, -3)}, {pair(3, 0), 0, pair(3, 0)}, {pair(3, 0), 3, pair(3, 0)}, {pair(3, 0), -1, pair(-3, -3)}, {pair(3, 0), -2, pair(0, 3)}, {pair(3, 0), -3, pair(3, 0)}, {pair(1, 2), 1, pair(-2, -1)}, {pair(1, 2), 2, pair(1, -1)},
		{pair(3, 0), 999999999, pair(3, 0)}, {pair(3, 0), -999999999, pair(3, 0)}, {pair(3, 0), 999999998, pair(-3, -3)}, {pair(3, 0), -999999998, pair(0, 3)}, {pair(999999999, -999999999), 1, pair(999999999, 1999999998)},
	} {
		p, e := rotor.Turn(row.a, row.thirds)
		check(t, "Turn", e, api.OK)
		check(t, "Turn", p, row.want)
	}
	for _, thirds := range []int{1000000000, -1000000000, math.MinInt, math.MaxInt} {
		p, e := rotor.Turn(pair(1, 2), thirds)
		check(t, "Turn by no thirds", e, api.ErrRange)
		checkZero(t, "Turn by no thirds", p)
	}
}

func TestP35PairErrors(t *testing.T) {
	for _, p := range []rotor.Pair{pair(1000000000, 0), pair(0, 1000000000), pair(-1000000000, 0), pair(0, -1000000000), pair(math.MinInt, math.MinInt), pair(math.MaxInt, math.MaxInt)} {
		first, e := rotor.Times(p, pair(1, 2))
		check(t, "Times", e, api.ErrRange)
		second, e := rotor.Times(pair(1, 2), p)
		check(t, "Times", e, api.ErrRange)
		conjugate, e := rotor.Conjugate(p)
		check(t, "Conjugate", e, api.ErrRange)
		norm, e := rotor.Norm(p)
		check(t, "Norm", e, api.ErrRange)
		turned, e := rotor.Turn(p, 0)
		check(t, "Turn", e, api.ErrRange)
		checkZero(t, "beside an error", first, second, conjugate, norm, turned)
	}
}

func TestP35Records(t *testing.T) {
	steady := make([][3]int, 400)
	standing := make([][3]int, 400)
	for i := range steady {
		steady[i] = [3]int{1000000, -1000000, -1000000}
		standing[i][(1+2*i)%3] = 1 // on the blade before, at each third: the turn makes up for it
	}
	for _, row := range []struct {
		l               [][3]int
		rotating, fixed rotor.Pair
	}{
		{[][3]int{{4, 1, 1}, {1, 4, 1}}, pair(3, 3), pair(0, -3)}, {nil, pair(0, 0), pair(0, 0)}, {[][3]int{{4, 1, 1}}, pair(3, 0), pair(3, 0)}, {[][3]int{{4, 1, 1}, {4, 1, 1}, {4, 1, 1}}, pair(9, 0), pair(0, 0)}, {[][3]int{{4, 1, 1}, {1, 1, 4}, {1, 4, 1}}, pair(0, 0), pair(9, 0)}, {[][3]int{{5, 5, 5}, {-1, -1, -1}}, pair(0, 0), pair(0, 0)},
		{steady, pair(800000000, 0), pair(2000000, 0)}, {standing, pair(0, 1), pair(0, 400)},
	} {
		p, e := rotor.Rotating(row.l)
		check(t, "Rotating", e, api.OK)
		check(t, "Rotating", p, row.rotating)
		p, e = rotor.Fixed(row.l)
		check(t, "Fixed", e, api.OK)
		check(t, "Fixed", p, row.fixed)
	}
	for _, row := range []struct {
		l [][3]int
		e api.Errno
	}{
		{make([][3]int, 401), api.ErrMany}, {append(make([][3]int, 400), [3]int{1000001}), api.ErrMany}, {[][3]int{{1000001, 0, 0}}, api.ErrRange}, {[][3]int{{}, {0, 0, -1000001}}, api.ErrRange}, {append(make([][3]int, 399), [3]int{0, math.MinInt, 0}), api.ErrRange},
	} {
		p, e := rotor.Rotating(row.l)
		check(t, "Rotating", e, row.e)
		q, e := rotor.Fixed(row.l)
		check(t, "Fixed", e, row.e)
		checkZero(t, "beside an error", p, q)
	}
}
