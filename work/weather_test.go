package work_test

import (
	"math"
	"math/rand"
	"slices"
	"testing"

	"nacelle/api"
	"nacelle/site"
	"nacelle/work"
)

// wrongLimits are limits with errors.
var wrongLimits = []struct {
	x work.Limits
	e api.Errno
}{
	{work.Limits{Wave: float32(math.NaN()), Wind: -1}, api.ErrForm}, {work.Limits{Wave: 1, Wind: float32(math.NaN())}, api.ErrForm}, {work.Limits{Wave: float32(math.Inf(1))}, api.ErrForm}, {work.Limits{Wave: -1, Wind: float32(math.Inf(-1))}, api.ErrForm},
	{work.Limits{Wave: 2048.5, Wind: float32(math.NaN())}, api.ErrRange}, {work.Limits{Wave: 0.03125}, api.ErrRange}, {work.Limits{Wind: 0.1}, api.ErrRange}, {work.Limits{Wind: 2049}, api.ErrRange}, {work.Limits{Wave: -0.0625}, api.ErrRange}, {work.Limits{Wind: -0.0625}, api.ErrRange}, {work.Limits{Wave: -2048, Wind: 5}, api.ErrRange}, {work.Limits{Wave: 5, Wind: -1}, api.ErrRange}, {work.Limits{Wave: math.MaxFloat32}, api.ErrRange},
}

// wrongForecasts are forecasts with errors.
func wrongForecasts() map[string]struct {
	l []work.Forecast
	e api.Errno
} {
	nameless, late, negative := series(1, 2), series(1, 2), series(1, 2)
	nameless.Name, late.Start, negative.Start = "", 101, -1
	nan, dirty, wide := series(1, float32(math.NaN())), series(1, 2), series(1, 0)
	dirty.Gaps, wide.Gaps = spans(1, 2), spans(1, 3)
	both := func(s site.Series) work.Forecast { return work.Forecast{Wave: s, Wind: s} }
	good := both(series(1, 2))
	return map[string]struct {
		l []work.Forecast
		e api.Errno
	}{
		"none": {nil, api.ErrEmpty}, "too many": {slices.Repeat([]work.Forecast{{}}, 9), api.ErrMany},
		"without names": {[]work.Forecast{{}}, api.ErrName}, "a wave without a name": {[]work.Forecast{good, {Wave: nameless, Wind: nan}}, api.ErrName}, "a wind without a name": {[]work.Forecast{{Wave: series(1, 2, 3), Wind: nameless}}, api.ErrName},
		"a start below 0": {[]work.Forecast{both(negative)}, api.ErrRange}, "NaN": {[]work.Forecast{{Wave: nan, Wind: nameless}}, api.ErrForm}, "a wind of NaN": {[]work.Forecast{good, {Wave: late, Wind: nan}}, api.ErrForm}, "too many samples": {[]work.Forecast{good, {Wave: series(1, 2), Wind: level(40001, 5)}}, api.ErrMany},
		"a gap with a sample": {[]work.Forecast{both(dirty)}, api.ErrGap}, "a gap behind the end": {[]work.Forecast{good, both(wide)}, api.ErrSpan},
		"a late wave": {[]work.Forecast{good, {Wave: late, Wind: series(1, 2)}}, api.ErrShape}, "a late wind": {[]work.Forecast{{Wave: series(1, 2), Wind: late}}, api.ErrShape}, "another start": {[]work.Forecast{good, both(late)}, api.ErrShape}, "a longer wave": {[]work.Forecast{good, {Wave: series(1, 2, 3), Wind: series(1, 2)}}, api.ErrShape}, "a shorter wind": {[]work.Forecast{{Wave: series(1, 2), Wind: series(1)}}, api.ErrShape}, "another length": {[]work.Forecast{good, good, both(series(1, 2, 3))}, api.ErrShape}, "an error behind a shape": {[]work.Forecast{good, both(late), both(nameless)}, api.ErrShape}, "an error before a shape": {[]work.Forecast{good, both(nameless), both(late)}, api.ErrName},
	}
}

func TestP91Limits(t *testing.T) {
	for _, x := range []work.Limits{{}, moderate(), {Wave: 2048, Wind: 2048}, {Wave: 0.0625, Wind: 0}, {Wave: float32(math.Copysign(0, -1)), Wind: float32(math.Copysign(0, -1))}} {
		check(t, "CheckLimits", results(work.CheckLimits(x)), api.OK)
	}
	for _, row := range wrongLimits {
		check(t, "CheckLimits", results(work.CheckLimits(row.x)), row.e)
	}
}

func TestP91Forecasts(t *testing.T) {
	named := usual()
	named[0].Wave.Name, named[1].Wind.Name = "other", "wind"
	empty := []work.Forecast{{Wave: series(), Wind: series()}}
	for _, l := range [][]work.Forecast{usual(), named, empty, comb(20000), slices.Repeat(usual(), 4)} {
		check(t, "CheckForecasts", results(work.CheckForecasts(l)), api.OK)
	}
	for what, row := range wrongForecasts() {
		check(t, "CheckForecasts with "+what, results(work.CheckForecasts(row.l)), row.e)
	}
}

func TestP91Windows(t *testing.T) {
	minus := series(float32(math.Copysign(0, -1)), -5, 0, 0.0625)
	for _, row := range []struct {
		l     []work.Forecast
		x     work.Limits
		least int
		want  []api.Span
	}{
		{usual(), moderate(), 1, spans(0, 3, 5, 6)}, {usual(), moderate(), 2, spans(0, 3)}, {usual(), moderate(), 3, spans(0, 3)}, {usual(), moderate(), 4, nil}, {usual(), moderate(), 40000, nil},
		{usual()[:1], moderate(), 1, spans(0, 4, 5, 6)}, {usual()[1:], moderate(), 1, spans(0, 3, 4, 6)}, {usual(), work.Limits{Wave: 2048, Wind: 5}, 1, spans(0, 6)}, {usual(), work.Limits{Wave: 2048, Wind: 4.9375}, 1, nil}, {usual(), work.Limits{Wave: 1.9375, Wind: 10}, 1, spans(0, 1, 2, 3, 5, 6)}, {usual(), work.Limits{Wave: 2.5, Wind: 10}, 1, spans(0, 4, 5, 6)},
		{[]work.Forecast{breezy(gappy(series(1, 2, 1, 1, 3, 1), 0, 1)), breezy(series(1, 1, 1, 1, 1, 1))}, moderate(), 1, spans(1, 4, 5, 6)}, {[]work.Forecast{breezy(series(1, 1, 1, 1)), {Wave: level(4, 1), Wind: gappy(level(4, 1), 2, 4)}}, moderate(), 1, spans(0, 2)}, {[]work.Forecast{breezy(gappy(level(5, 1), 1, 2, 3, 4))}, moderate(), 1, spans(0, 1, 2, 3, 4, 5)}, {[]work.Forecast{breezy(gappy(level(5, 1), 0, 5))}, moderate(), 1, nil},
		{[]work.Forecast{{Wave: minus, Wind: level(4, -1)}}, work.Limits{}, 1, spans(0, 3)}, {[]work.Forecast{{Wave: minus, Wind: minus}}, work.Limits{Wave: float32(math.Copysign(0, -1))}, 1, spans(0, 3)}, {[]work.Forecast{{Wave: series(), Wind: series()}}, moderate(), 1, nil},
		{[]work.Forecast{breezy(level(40000, 1))}, moderate(), 40000, spans(0, 40000)}, {comb(1025), moderate(), 2, nil},
	} {
		check(t, "Windows", results(work.Windows(row.l, row.x, row.least)), row.want, api.OK)
	}
	most, e := work.Windows(comb(1024), moderate(), 1)
	check(t, "as many windows as there may be", results(len(most), most[1023], e), 1024, api.Span{From: 2046, To: 2047}, api.OK)
	check(t, "too many windows", results(work.Windows(comb(1025), moderate(), 1)), noSpans, api.ErrMany)
}

func TestP91Enter(t *testing.T) {
	gap := []work.Forecast{breezy(gappy(level(6, 1), 2, 3))}
	for _, row := range []struct {
		l          []work.Forecast
		from, need int
		e          api.Errno
	}{
		{usual(), 1, 2, api.OK}, {usual(), 1, 3, api.ErrWeather}, {usual(), 0, 3, api.OK}, {usual(), 0, 4, api.ErrWeather}, {usual(), 2, 1, api.OK}, {usual(), 3, 1, api.ErrWeather}, {usual(), 5, 1, api.OK}, {usual(), 5, 2, api.ErrWeather}, {usual(), 6, 1, api.ErrWeather}, {usual(), 40000, 40000, api.ErrWeather}, {usual(), 0, 40000, api.ErrWeather},
		{gap, 0, 2, api.OK}, {gap, 0, 3, api.ErrWeather}, {gap, 1, 2, api.ErrWeather}, {gap, 2, 1, api.ErrWeather}, {gap, 3, 3, api.OK}, {gap, 3, 4, api.ErrWeather},
		{comb(3000), 4000, 1, api.OK}, {comb(3000), 4000, 2, api.ErrWeather}, {[]work.Forecast{breezy(level(40000, 1))}, 0, 40000, api.OK}, {[]work.Forecast{breezy(level(40000, 1))}, 39999, 1, api.OK}, {[]work.Forecast{breezy(level(40000, 1))}, 40000, 1, api.ErrWeather},
	} {
		check(t, "Enter", results(work.Enter(row.l, moderate(), row.from, row.need)), row.e)
	}
}

func TestP91Earliest(t *testing.T) {
	for _, row := range []struct {
		l                []work.Forecast
		from, need, want int
		e                api.Errno
	}{
		{usual(), 2, 1, 2, api.OK}, {usual(), 3, 1, 5, api.OK}, {usual(), 0, 1, 0, api.OK}, {usual(), 1, 2, 1, api.OK}, {usual(), 2, 2, 0, api.ErrNone}, {usual(), 0, 3, 0, api.OK}, {usual(), 1, 3, 0, api.ErrNone}, {usual(), 5, 1, 5, api.OK}, {usual(), 6, 1, 0, api.ErrNone}, {usual(), 0, 40000, 0, api.ErrNone}, {usual(), 40000, 1, 0, api.ErrNone},
		{comb(3000), 4001, 1, 4002, api.OK}, {comb(3000), 0, 2, 0, api.ErrNone}, {[]work.Forecast{breezy(level(40000, 1))}, 39999, 1, 39999, api.OK}, {[]work.Forecast{breezy(gappy(level(9, 1), 3, 4))}, 1, 3, 4, api.OK},
	} {
		check(t, "Earliest", results(work.Earliest(row.l, moderate(), row.from, row.need)), row.want, row.e)
	}
}

func TestP91Errors(t *testing.T) {
	bad := work.Limits{Wave: -1}
	for what, row := range wrongForecasts() {
		check(t, "Windows with "+what, results(work.Windows(row.l, bad, 0)), noSpans, row.e)
		check(t, "Enter with "+what, results(work.Enter(row.l, bad, -1, 0)), row.e)
		check(t, "Earliest with "+what, results(work.Earliest(row.l, bad, -1, 0)), 0, row.e)
	}
	for _, row := range wrongLimits {
		check(t, "Windows", results(work.Windows(usual(), row.x, 0)), noSpans, row.e)
		check(t, "Enter", results(work.Enter(usual(), row.x, -1, 0)), row.e)
		check(t, "Earliest", results(work.Earliest(usual(), row.x, -1, 0)), 0, row.e)
	}
	for _, n := range outside {
		check(t, "Windows", results(work.Windows(comb(1025), moderate(), n)), noSpans, api.ErrRange)
		check(t, "Enter", results(work.Enter(usual(), moderate(), n, 1)), api.ErrRange)
		check(t, "Enter", results(work.Enter(usual(), moderate(), 4, n)), api.ErrRange)
		check(t, "Earliest", results(work.Earliest(usual(), moderate(), n, 1)), 0, api.ErrRange)
		check(t, "Earliest", results(work.Earliest(usual(), moderate(), 9, n)), 0, api.ErrRange)
	}
	check(t, "Windows", results(work.Windows(usual(), moderate(), 0)), noSpans, api.ErrRange)
	check(t, "Enter", results(work.Enter(usual(), moderate(), 0, 0)), api.ErrRange)
	check(t, "Earliest", results(work.Earliest(usual(), moderate(), 0, 0)), 0, api.ErrRange)
}

func TestP91Otherwise(t *testing.T) {
	r := rand.New(rand.NewSource(1))
	found := map[int]bool{}
	for range 1500 {
		l, x := randomForecasts(r, 1+r.Intn(3), r.Intn(40)), randomLimits(r)
		least := 1 + r.Intn(4)
		want := slowWindows(l, x, least)
		found[len(want)] = true
		check(t, "Windows", results(work.Windows(l, x, least)), want, api.OK)
		from, need := r.Intn(42), 1+r.Intn(4)
		e := api.ErrWeather
		if slowEnter(l, x, from, need) {
			e = api.OK
		}
		check(t, "Enter", results(work.Enter(l, x, from, need)), e)
		quarter, e := 0, api.ErrNone
		for q := 40; q >= from; q-- {
			if slowEnter(l, x, q, need) {
				quarter, e = q, api.OK
			}
		}
		check(t, "Earliest", results(work.Earliest(l, x, from, need)), quarter, e)
	}
	check(t, "numbers of windows", results(len(found) > 6), true)
}
