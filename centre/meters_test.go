package centre_test

import (
	"fmt"
	"math/rand"
	"slices"
	"testing"

	"nacelle/api"
	"nacelle/centre"
	"nacelle/market"
)

// meter returns a meter.
func meter(turbine string, quarter, available, curtailed, lost int) centre.Meter {
	return centre.Meter{Turbine: turbine, Quarter: quarter, Available: available, Curtailed: curtailed, Lost: lost}
}

// meters are those of two turbines in two quarters, and of one in a third one.
func meters() []centre.Meter {
	return []centre.Meter{meter("a", 40, 60, 10, 5), meter("b", 0, 100000, 0, 0), meter("b", 40, 7, 0, 7), meter("a", 0, 1, 1, 0), meter("a", 40000, 9, 4, 3)}
}

// wrongMeters are meters with errors.
var wrongMeters = []struct {
	m centre.Meter
	e api.Errno
}{
	{centre.Meter{}, api.ErrName}, {meter("1", -1, 0, 0, 0), api.ErrName}, {meter(long, 0, -1, 0, 0), api.ErrName}, {meter("a b", 0, 0, 1, 0), api.ErrName}, {meter("\xff", 0, 0, 0, 0), api.ErrName},
	{meter("a", -1, 0, 1, 0), api.ErrRange}, {meter("a", 40001, 0, 1, 0), api.ErrRange}, {meter("a", 0, -1, 0, 0), api.ErrRange}, {meter("a", 0, 100001, 0, 0), api.ErrRange}, {meter("a", 0, 5, -1, 0), api.ErrRange}, {meter("a", 0, 5, 100001, 0), api.ErrRange}, {meter("a", 0, 5, 0, -1), api.ErrRange}, {meter("a", 0, 5, 0, 100001), api.ErrRange}, {meter("a", 0, 5, 9, -6), api.ErrRange}, {meter("a", outside[0], outside[3], 0, 0), api.ErrRange}, {meter("a", 0, outside[3], outside[0], outside[0]), api.ErrRange},
	{meter("a", 0, 5, 6, 0), api.ErrConflict}, {meter("a", 0, 5, 0, 6), api.ErrConflict}, {meter("a", 0, 5, 3, 3), api.ErrConflict}, {meter("a", 0, 0, 100000, 100000), api.ErrConflict},
}

func TestP102QuarterOf(t *testing.T) {
	for _, row := range []struct {
		l                []centre.Meter
		quarter, offered int
		want             market.Quarter
	}{
		{meters(), 40, 50, market.Quarter{Offered: 50, Available: 67, Curtailed: 10, Lost: 12, Metered: 45}}, {meters(), 0, 0, market.Quarter{Available: 100001, Curtailed: 1, Metered: 100000}}, {meters(), 40000, 6400000, market.Quarter{Offered: 6400000, Available: 9, Curtailed: 4, Lost: 3, Metered: 2}}, {meters()[:1], 40, 50, market.Quarter{Offered: 50, Available: 60, Curtailed: 10, Lost: 5, Metered: 45}},
		{[]centre.Meter{meter(fitting, 3, 0, 0, 0)}, 3, 1, market.Quarter{Offered: 1}}, {[]centre.Meter{meter("a", 3, 5, 2, 3), meter("a", 3, 5, 5, 0)}, 3, 0, market.Quarter{Available: 10, Curtailed: 7, Lost: 3}},
		{slices.Repeat([]centre.Meter{meter("a", 1, 100000, 100000, 0)}, 64), 1, 0, market.Quarter{Available: 6400000, Curtailed: 6400000}}, {slices.Repeat([]centre.Meter{meter("a", 1, 6400, 0, 6400)}, 1000), 1, 0, market.Quarter{Available: 6400000, Lost: 6400000}}, {append(slices.Repeat([]centre.Meter{meter("a", 1, 100000, 0, 0)}, 999), meter("a", 2, 1, 0, 0)), 2, 0, market.Quarter{Available: 1, Metered: 1}},
	} {
		check(t, "QuarterOf", results(centre.QuarterOf(row.l, row.quarter, row.offered)), row.want, api.OK)
		check(t, "CheckQuarter", results(market.CheckQuarter(row.want)), api.OK)
	}
}

func TestP102Errors(t *testing.T) {
	check(t, "QuarterOf", results(centre.QuarterOf(make([]centre.Meter, 1001), -1, -1)), market.Quarter{}, api.ErrMany)
	check(t, "QuarterOf", results(centre.QuarterOf(slices.Repeat(meters(), 201), 40, 50)), market.Quarter{}, api.ErrMany)
	for _, row := range wrongMeters {
		check(t, "QuarterOf", results(centre.QuarterOf(append(meters(), row.m, meter("a", -1, 0, 0, 0), centre.Meter{}), -1, -1)), market.Quarter{}, row.e)
		check(t, "QuarterOf", results(centre.QuarterOf([]centre.Meter{row.m}, 7, 0)), market.Quarter{}, row.e)
	}
	heavy := append(slices.Repeat([]centre.Meter{meter("a", 1, 100000, 0, 0)}, 64), meter("b", 1, 1, 0, 0))
	for _, row := range []struct {
		l                []centre.Meter
		quarter, offered int
		e                api.Errno
	}{
		{meters(), -1, 0, api.ErrRange}, {meters(), 40001, 0, api.ErrRange}, {meters(), 40, -1, api.ErrRange}, {meters(), 40, 6400001, api.ErrRange}, {meters(), outside[0], 0, api.ErrRange}, {meters(), outside[3], 0, api.ErrRange}, {meters(), 40, outside[0], api.ErrRange}, {meters(), 41, outside[3], api.ErrRange}, {heavy, 1, -1, api.ErrRange},
		{meters(), 41, 0, api.ErrNone}, {nil, 0, 0, api.ErrNone}, {heavy, 2, 0, api.ErrNone}, {heavy, 1, 0, api.ErrLarge},
	} {
		check(t, "QuarterOf", results(centre.QuarterOf(row.l, row.quarter, row.offered)), market.Quarter{}, row.e)
	}
}

// TestP102Otherwise: the quarter of meters in any order is the sum of those of each one alone.
func TestP102Otherwise(t *testing.T) {
	r := rand.New(rand.NewSource(2))
	for range 500 {
		var l []centre.Meter
		want := market.Quarter{Offered: r.Intn(6400001)}
		e := api.ErrNone
		for i := range r.Intn(30) {
			curtailed, lost, metered := r.Intn(30000), r.Intn(30000), r.Intn(30000)
			l = append(l, meter(fmt.Sprint("t", i), r.Intn(3), curtailed+lost+metered, curtailed, lost))
			if l[i].Quarter == 1 {
				want, e = market.Quarter{Offered: want.Offered, Available: want.Available + l[i].Available, Curtailed: want.Curtailed + curtailed, Lost: want.Lost + lost, Metered: want.Metered + metered}, api.OK
			}
		}
		if e != api.OK {
			want = market.Quarter{}
		}
		r.Shuffle(len(l), func(i, j int) { l[i], l[j] = l[j], l[i] })
		check(t, "QuarterOf", results(centre.QuarterOf(l, 1, want.Offered)), want, e)
	}
}
