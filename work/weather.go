package work

import (
	"iter"

	"nacelle/api"
	"nacelle/check"
	"nacelle/site"
	"nacelle/span"
)

// Limits is a height of waves and a speed of wind.
type Limits struct {
	Wave float32
	Wind float32
}

// CheckLimits returns the first error of limits, or OK.
func CheckLimits(x Limits) api.Errno {
	return check.First(site.CheckSample(x.Wave), site.CheckSample(x.Wind), check.That(x.Wave >= 0 && x.Wind >= 0, api.ErrRange))
}

// Forecast is a series of waves and one of wind.
type Forecast struct {
	Wave site.Series
	Wind site.Series
}

// check returns the first error of a forecast for the time of a series, or OK.
func (f Forecast) check(time site.Series) api.Errno {
	return check.First(
		site.CheckSeries(f.Wave), site.CheckSeries(f.Wind),
		check.That(isOfTime(f.Wave, time) && isOfTime(f.Wind, time), api.ErrShape),
	)
}

// isOfTime reports whether a series is of the same time as another one.
func isOfTime(s, other site.Series) bool {
	return s.Start == other.Start && len(s.Samples) == len(other.Samples)
}

// CheckForecasts returns the first error of forecasts, or OK.
func CheckForecasts(l []Forecast) api.Errno {
	return check.First(
		check.Filled(len(l), MaxForecasts),
		check.Each(l, func(f Forecast) api.Errno { return f.check(l[0].Wave) }),
	)
}

// checkEntry returns the first error of forecasts, limits, a quarter and a need, or OK.
func checkEntry(l []Forecast, x Limits, from, need int) api.Errno {
	return check.First(CheckForecasts(l), CheckLimits(x), checkQuarter(from), checkLength(need))
}

// open visits the quarters that are open by limits, in order. There is a forecast, and all were checked.
func open(l []Forecast, x Limits) iter.Seq[int] {
	closed := make([]bool, len(l[0].Wave.Samples))
	for _, f := range l {
		mark(closed, f.Wave, x.Wave)
		mark(closed, f.Wind, x.Wind)
	}
	return func(yield func(int) bool) {
		for q := range closed {
			if !closed[q] && !yield(q) {
				return
			}
		}
	}
}

// mark marks the quarters that a series closes: those that it has not recorded, and those above a limit.
func mark(closed []bool, s site.Series, limit float32) {
	for q := range span.Quarters(s.Gaps) {
		closed[q] = true
	}
	for q, x := range s.Samples {
		closed[q] = closed[q] || x > limit
	}
}

// windows returns the windows by forecasts and limits that were checked. There may be more than a list of spans has.
func windows(l []Forecast, x Limits, least int) []api.Span {
	return span.Lasting(span.Of(open(l, x)), least)
}

// Windows returns the windows by all forecasts.
func Windows(l []Forecast, x Limits, least int) ([]api.Span, api.Errno) {
	if e := check.First(CheckForecasts(l), CheckLimits(x), checkLength(least)); e != api.OK {
		return nil, e
	}
	out := windows(l, x, least)
	if e := check.Many(len(out), api.MaxSpans); e != api.OK {
		return nil, e
	}
	return out, api.OK
}

// Enter returns OK if all quarters that are needed are open.
func Enter(l []Forecast, x Limits, from, need int) api.Errno {
	if e := checkEntry(l, x, from, need); e != api.OK {
		return e
	}
	return check.That(span.Lies(windows(l, x, need), from, need), api.ErrWeather)
}

// Earliest returns the least quarter at which somebody may be sent.
func Earliest(l []Forecast, x Limits, from, need int) (int, api.Errno) {
	if e := checkEntry(l, x, from, need); e != api.OK {
		return 0, e
	}
	quarter, ok := span.Fit(windows(l, x, need), from, need)
	return quarter, check.That(ok, api.ErrNone)
}
