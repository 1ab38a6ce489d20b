package site_test

import (
	"math"
	"testing"

	"nacelle/api"
	"nacelle/site"
)

func TestP14Check(t *testing.T) {
	check(t, "CheckRose of no wind", site.CheckRose(site.Rose{}), api.OK)
	for _, row := range []struct {
		n int
		e api.Errno
	}{{40000, api.OK}, {40001, api.ErrRange}, {-1, api.ErrRange}, {math.MaxInt, api.ErrRange}, {math.MinInt, api.ErrRange}} {
		for _, where := range [][2]int{{0, 0}, {3, 4}, {7, 50}} {
			var r site.Rose
			r[where[0]][where[1]] = row.n
			check(t, "CheckRose", site.CheckRose(r), row.e)
			n, e := site.Quarters(r)
			check(t, "Quarters", e, row.e)
			turned, e := site.TurnRose(r, 1)
			check(t, "TurnRose", e, row.e)
			if row.e != api.OK {
				check(t, "Quarters", n, 0)
				check(t, "TurnRose", turned, site.Rose{})
			}
		}
	}
}

func TestP14Turn(t *testing.T) {
	var r site.Rose
	for s := range r {
		for v := range r[s] {
			r[s][v] = 100*s + v
		}
	}
	for quarters := range 4 {
		turned, e := site.TurnRose(r, quarters)
		check(t, "TurnRose", e, api.OK)
		for s := range r {
			check(t, "a turned sector", turned[(s+2*quarters)%8], r[s])
		}
	}
	for _, quarters := range []int{-1, 4, math.MinInt, math.MaxInt} {
		turned, e := site.TurnRose(r, quarters)
		check(t, "TurnRose", e, api.ErrRange)
		check(t, "TurnRose", turned, site.Rose{})
	}
}

func TestP14Quarters(t *testing.T) {
	var r site.Rose
	n, e := site.Quarters(r)
	check(t, "Quarters of no wind", e, api.OK)
	check(t, "Quarters of no wind", n, 0)
	for s := range r {
		for v := range r[s] {
			r[s][v] = 40000
		}
	}
	n, _ = site.Quarters(r)
	check(t, "Quarters of a full rose", n, 8*51*40000)
	r = site.Rose{}
	r[0][0], r[7][50] = 1, 2
	n, _ = site.Quarters(r)
	check(t, "Quarters at the edges", n, 3)
}

func TestP14Blown(t *testing.T) {
	v := site.Series{Name: "v", Samples: []float32{7.5, 8, 0}}
	d := site.Series{Name: "d", Samples: []float32{0, 2, 0}, Gaps: spans(2, 3)}
	r, e := site.Blown(v, d)
	check(t, "Blown", e, api.OK)
	var want, turned site.Rose
	want[0][7], want[2][8] = 1, 1
	turned[2][7], turned[4][8] = 1, 1
	check(t, "Blown", r, want)
	x, _ := site.TurnRose(r, 1)
	check(t, "TurnRose of what was blown", x, turned)
	n, _ := site.Quarters(r)
	check(t, "Quarters of what was blown", n, 2)
	r, e = site.Blown(site.Series{Name: "v"}, site.Series{Name: "d"})
	check(t, "Blown of nothing", e, api.OK)
	check(t, "Blown of nothing", r, site.Rose{})
}

func TestP14BlownValues(t *testing.T) {
	for _, row := range []struct {
		speed, sector float32
		e             api.Errno
	}{
		{0, 0, api.OK}, {50.9375, 7, api.OK}, {float32(math.Copysign(0, -1)), float32(math.Copysign(0, -1)), api.OK},
		{51, 0, api.ErrRange}, {-0.0625, 0, api.ErrRange}, {0, 8, api.ErrRange}, {0, -1, api.ErrRange}, {0, 0.5, api.ErrRange}, {0, -0.0625, api.ErrRange}, {2048, 2048, api.ErrRange},
	} {
		v := site.Series{Name: "v", Start: 5, Samples: []float32{1, row.speed}}
		d := site.Series{Name: "d", Start: 5, Samples: []float32{1, row.sector}}
		r, e := site.Blown(v, d)
		check(t, "Blown", e, row.e)
		var want site.Rose
		if e == api.OK {
			want[1][1]++
			want[int(row.sector)][int(row.speed)]++
		}
		check(t, "Blown", r, want)
		d.Samples[1], d.Gaps = 0, spans(1, 2)
		_, e = site.Blown(v, d)
		check(t, "Blown with a gap there", e, api.OK)
	}
}

func TestP14BlownErrors(t *testing.T) {
	v := site.Series{Name: "v", Samples: []float32{60, 8}}
	d := site.Series{Name: "d", Samples: []float32{0, 2}}
	late, short, bad := d, d, d
	late.Start = 1
	short.Samples = d.Samples[:1]
	bad.Gaps = spans(0, 3)
	for _, row := range []struct {
		v, d site.Series
		e    api.Errno
	}{
		{v, d, api.ErrRange}, {v, late, api.ErrShape}, {v, short, api.ErrShape}, {v, bad, api.ErrSpan}, {bad, site.Series{}, api.ErrSpan}, {site.Series{}, bad, api.ErrName},
	} {
		r, e := site.Blown(row.v, row.d)
		check(t, "Blown", e, row.e)
		check(t, "Blown", r, site.Rose{})
	}
}
