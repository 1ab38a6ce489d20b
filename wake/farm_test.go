package wake_test

import (
	"math"
	"math/rand"
	"testing"

	"nacelle/api"
	"nacelle/site"
	"nacelle/wake"
)

func TestP23CheckFarm(t *testing.T) {
	for _, row := range []struct {
		name string
		f    func(f *wake.Farm)
		e    api.Errno
	}{
		{"as it is", func(f *wake.Farm) {}, api.OK},
		{"site", func(f *wake.Farm) { f.Site.Least = 2 }, api.ErrOverlap},
		{"wake", func(f *wake.Farm) { f.Wake.Rule = "" }, api.ErrKind},
		{"curve", func(f *wake.Farm) { f.Curve.CutOut = 0 }, api.ErrRange},
		{"rose", func(f *wake.Farm) { f.Rose[7][50] = 40001 }, api.ErrRange},
		{"rose below", func(f *wake.Farm) { f.Rose[0][0] = -1 }, api.ErrRange},
		{"site before wake", func(f *wake.Farm) { f.Site.Name, f.Wake.Rule = "", "" }, api.ErrName},
		{"wake before curve", func(f *wake.Farm) { f.Wake.Deficits, f.Curve.Powers = nil, nil }, api.ErrEmpty},
		{"curve before rose", func(f *wake.Farm) { f.Curve.Powers[0], f.Rose[0][0] = 1, -1 }, api.ErrZero},
	} {
		f := farm()
		row.f(&f)
		check(t, row.name, wake.CheckFarm(f), row.e)
		n, e := wake.Energy(f)
		check(t, row.name+": Energy", e, row.e)
		free, e := wake.Free(f)
		check(t, row.name+": Free", e, row.e)
		interval, e := wake.Interval(f)
		check(t, row.name+": Interval", e, row.e)
		loss, e := wake.Loss(f)
		check(t, row.name+": Loss", e, row.e)
		_, e = wake.Gain(f, site.Turbine{Name: "d", At: at(9, 9)})
		check(t, row.name+": Gain", e, row.e)
		_, e = wake.Move(f, 0, at(9, 9))
		check(t, row.name+": Move", e, row.e)
		if row.e != api.OK {
			checkZero(t, row.name, n, free, interval, loss)
		}
	}
}

func TestP23Energy(t *testing.T) {
	n, e := wake.Energy(farm())
	check(t, "Energy", e, api.OK)
	check(t, "Energy", n, 358400)
	n, e = wake.Free(farm())
	check(t, "Free", e, api.OK)
	check(t, "Free", n, 460800)
	loss, e := wake.Loss(farm())
	check(t, "Loss", e, api.OK)
	check(t, "Loss", loss, api.Ratio{Num: 2, Den: 9})
	interval, e := wake.Interval(farm())
	check(t, "Interval", e, api.OK)
	// at the free speed 5 the speeds are 1280, 640 and 960
	check(t, "Interval", interval, [2]int{358400, 2 * (76800 + 51200 + 76800)})
	cut := farm()
	cut.Curve.CutOut = 4
	for _, f := range []wake.Farm{cut, {Site: row(0), Wake: w(), Curve: c(), Rose: rose()}, {Site: s(), Wake: w(), Curve: c()}} {
		n, _ := wake.Energy(f)
		check(t, "no energy", n, 0)
		n, _ = wake.Free(f)
		check(t, "no energy without wakes", n, 0)
		interval, e := wake.Interval(f)
		check(t, "an interval of nothing", e, api.OK)
		check(t, "an interval of nothing", interval, [2]int{0, 0})
		loss, e := wake.Loss(f)
		check(t, "a loss of nothing", e, api.ErrZero)
		checkZero(t, "a loss of nothing", loss)
	}
	lone := farm()
	lone.Site.Turbines = lone.Site.Turbines[:1]
	loss, e = wake.Loss(lone)
	check(t, "no loss", e, api.OK)
	check(t, "no loss", loss, api.Ratio{Num: 0, Den: 1})
	dead := wake.Farm{Site: row(2), Wake: wake.Wake{Rule: "sum", Deficits: []int{256}, Widths: []int{100}}, Curve: wake.Curve{Powers: []int{0, 1}, CutOut: 51}, Rose: rose()}
	loss, _ = wake.Loss(dead)
	check(t, "a half lost", loss, api.Ratio{Num: 1, Den: 2})
}

// TestP23Greatest: the class of the last speed below CutOut reaches up to CutOut, and that of CutOut counts nothing.
func TestP23Greatest(t *testing.T) {
	f := wake.Farm{Site: row(1), Wake: w(), Curve: wake.Curve{Powers: []int{0, 1, 2, 3, 4, 5, 6}, CutOut: 4}}
	f.Rose[1][3], f.Rose[1][4], f.Rose[5][0] = 10, 100, 1000
	interval, e := wake.Interval(f)
	check(t, "Interval", e, api.OK)
	check(t, "Interval", interval, [2]int{10 * 3 * 256, 10*4*256 + 1000*256})
	last := wake.Farm{Site: row(1), Wake: w(), Curve: wake.Curve{Powers: []int{0, 1}, CutOut: 51}}
	last.Rose[0][50] = 3
	interval, _ = wake.Interval(last)
	check(t, "Interval of the last speed", interval, [2]int{768, 768})
}

func TestP23Most(t *testing.T) {
	f := wake.Farm{Site: row(64), Wake: wake.Wake{Rule: "greatest", Deficits: []int{0}, Widths: []int{0}}, Curve: wake.Curve{Powers: []int{0, 100000}, CutOut: 51}}
	for sector := range f.Rose {
		for speed := range f.Rose[sector] {
			f.Rose[sector][speed] = 40000
		}
	}
	n, e := wake.Energy(f)
	check(t, "the greatest energy", e, api.OK)
	check(t, "the greatest energy", n, 8*50*40000*64*25600000)
	interval, _ := wake.Interval(f)
	check(t, "the greatest interval", interval, [2]int{n, 8 * 51 * 40000 * 64 * 25600000})
}

func TestP23Otherwise(t *testing.T) {
	r := rand.New(rand.NewSource(3))
	for range 100 {
		f := randomFarm(r, r.Intn(9))
		n, _ := wake.Energy(f)
		check(t, "Energy", n, slowEnergy(f, 0))
		interval, _ := wake.Interval(f)
		check(t, "Interval", interval, [2]int{n, slowEnergy(f, 1)})
		still := f
		still.Wake = wake.Wake{Rule: "sum", Deficits: []int{0}, Widths: []int{0}}
		free, _ := wake.Free(f)
		check(t, "Free", free, slowEnergy(still, 0))
		sum := 0
		for sector := range 8 {
			for speed := range 51 {
				l, e := wake.Powers(f, sector, speed)
				check(t, "Powers", e, api.OK)
				for _, p := range l {
					sum += f.Rose[sector][speed] * p
				}
			}
		}
		check(t, "the sum of the powers", sum, n)
		loss, e := wake.Loss(f)
		if free == 0 {
			check(t, "Loss of nothing", e, api.ErrZero)
			continue
		}
		check(t, "Loss", loss.Num*free == loss.Den*(free-n), true)
		for d := 2; d < 50; d++ {
			check(t, "lowest terms", loss.Num%d == 0 && loss.Den%d == 0, false)
		}
	}
}

func TestP23Gain(t *testing.T) {
	for _, row := range []struct {
		at   api.Point
		want int
	}{
		{at(9, 9), 153600},  // free wind
		{at(1, -2), 153600}, // 64 by c, which takes nothing
		{at(1, 2), 51200},   // free itself, but c is left 512 with 25600 then
		{at(0, 3), 0},       // free itself, but a loses 51200 and b 25600
		{at(0, 0), 0},       // 128 by b and 64 by a
	} {
		n, e := wake.Gain(farm(), site.Turbine{Name: "d", At: row.at})
		check(t, "Gain", e, api.OK)
		after := farm()
		after.Site.Turbines = append(after.Site.Turbines, site.Turbine{Name: "d", At: row.at})
		check(t, "Gain otherwise", n, slowEnergy(after, 0)-slowEnergy(farm(), 0))
		check(t, "Gain", n, row.want)
	}
	wide := farm()
	wide.Wake = wake.Wake{Rule: "sum", Deficits: []int{256}, Widths: []int{1}}
	wide.Site.Turbines = []site.Turbine{{Name: "a"}, {Name: "b", At: at(2, 0)}}
	n, e := wake.Gain(wide, site.Turbine{Name: "d", At: at(1, 1)})
	check(t, "Gain of one before two", e, api.OK)
	check(t, "Gain of one before two", n, -153600)
	for _, row := range []struct {
		turbine site.Turbine
		e       api.Errno
	}{
		{site.Turbine{}, api.ErrName}, {site.Turbine{Name: "d", At: at(0, 1001)}, api.ErrRange}, {site.Turbine{Name: "a", At: at(9, 9)}, api.ErrTwice}, {site.Turbine{Name: "d", At: at(0, 1)}, api.ErrOverlap}, {site.Turbine{Name: "d", At: at(math.MinInt, math.MaxInt)}, api.ErrRange},
	} {
		n, e := wake.Gain(farm(), row.turbine)
		check(t, "Gain", e, row.e)
		checkZero(t, "Gain", n)
	}
	full := farm()
	full.Site = row(64)
	_, e = wake.Gain(full, site.Turbine{Name: "1", At: at(9, 9)})
	check(t, "Gain of a turbine too many", e, api.ErrMany)
	_, e = wake.Gain(wake.Farm{}, site.Turbine{})
	check(t, "Gain of no farm", e, api.ErrName)
	bad := farm()
	bad.Wake.Rule = ""
	_, e = wake.Gain(bad, site.Turbine{})
	check(t, "Gain by no wake", e, api.ErrKind)
}

func TestP23Move(t *testing.T) {
	for _, row := range []struct {
		turbine int
		to      api.Point
		want    int
	}{{1, at(9, 9), 102400}, {1, at(0, 1), 0}, {0, at(0, 0), 0}, {2, at(0, 3), -153600}} {
		n, e := wake.Move(farm(), row.turbine, row.to)
		check(t, "Move", e, api.OK)
		after := farm()
		after.Site.Turbines[row.turbine].At = row.to
		check(t, "Move otherwise", n, slowEnergy(after, 0)-slowEnergy(farm(), 0))
		check(t, "Move", n, row.want)
	}
	for _, row := range []struct {
		turbine int
		to      api.Point
		e       api.Errno
	}{
		{3, at(0, 1001), api.ErrUnknown}, {-1, at(9, 9), api.ErrUnknown}, {math.MinInt, at(9, 9), api.ErrUnknown}, {0, at(0, 1001), api.ErrRange}, {0, at(0, 1), api.ErrOverlap}, {2, at(math.MaxInt, math.MinInt), api.ErrRange},
	} {
		n, e := wake.Move(farm(), row.turbine, row.to)
		check(t, "Move", e, row.e)
		checkZero(t, "Move", n)
	}
	_, e := wake.Move(wake.Farm{}, 3, at(0, 0))
	check(t, "Move in no farm", e, api.ErrName)
}

func TestP23Memory(t *testing.T) {
	f := farm()
	f.Site.Turbines = append(make([]site.Turbine, 0, 9), f.Site.Turbines...)
	wake.Gain(f, site.Turbine{Name: "d", At: at(9, 9)})
	wake.Move(f, 0, at(9, 9))
	wake.Loss(f)
	checkSame(t, "the farm", f, farm())
	check(t, "what stands behind the turbines", f.Site.Turbines[:4][3], site.Turbine{})
}
