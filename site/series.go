package site

import (
	"iter"
	"slices"

	"nacelle/api"
	"nacelle/check"
	"nacelle/list"
	"nacelle/span"
)

// Series is a sample for each quarter of an hour, and the spans without a record.
type Series struct {
	Name    string
	Start   int
	Samples []float32
	Gaps    []api.Span
}

// Statistics is how many quarters were recorded, the sum of their samples in sixteenths, the least and the greatest sample.
type Statistics struct {
	Count int
	Sum   int
	Least float32
	Most  float32
}

// CheckSeries returns the first error of a series, or OK.
func CheckSeries(s Series) api.Errno {
	if !IsName(s.Name) {
		return api.ErrName
	}
	if e := check.Range(s.Start, 0, api.MaxNumber); e != api.OK {
		return e
	}
	return check.First(check.Many(len(s.Samples), api.MaxTime), check.Each(s.Samples, CheckSample), checkGaps(s.Gaps, s.Samples))
}

// checkGaps returns the first error of the gaps of samples, or OK.
func checkGaps(gaps []api.Span, samples []float32) api.Errno {
	if e := CheckSpans(gaps); e != api.OK {
		return e
	}
	for _, g := range gaps {
		if g.To > len(samples) {
			return api.ErrSpan
		}
	}
	for q := range span.Quarters(gaps) {
		if samples[q] != 0 {
			return api.ErrGap
		}
	}
	return api.OK
}

// recorded returns the spans of the indices of a series that are not in its gaps.
func recorded(s Series) []api.Span {
	return lacking([]api.Span{{From: 0, To: len(s.Samples)}}, s.Gaps)
}

// Summary returns the statistics of a series.
func Summary(s Series) (Statistics, api.Errno) {
	if e := CheckSeries(s); e != api.OK {
		return Statistics{}, e
	}
	var out Statistics
	for q := range span.Quarters(recorded(s)) {
		x := plain(s.Samples[q])
		if out.Count == 0 {
			out.Least, out.Most = x, x
		}
		out.Count++
		out.Sum += int(fraction * x)
		out.Least = min(out.Least, x)
		out.Most = max(out.Most, x)
	}
	if out.Count == 0 {
		return Statistics{}, api.ErrEmpty
	}
	return out, api.OK
}

// low visits the quarters that are recorded, and at or below a level.
func low(s Series, level float32) iter.Seq[int] {
	return func(yield func(int) bool) {
		for q := range span.Quarters(recorded(s)) {
			if s.Samples[q] <= level && !yield(q) {
				return
			}
		}
	}
}

// Spells returns the spans in which a series stays at or below a level.
func Spells(s Series, level float32, least int) ([]api.Span, api.Errno) {
	if e := check.First(CheckSeries(s), CheckSample(level), check.Range(least, 1, api.MaxTime)); e != api.OK {
		return nil, e
	}
	return bounded(span.Lasting(span.Of(low(s, level)), least))
}

// Append returns a series with the one that follows it.
func Append(a, b Series) (Series, api.Errno) {
	if e := check.First(CheckSeries(a), CheckSeries(b)); e != api.OK {
		return Series{}, e
	}
	if a.Name != b.Name {
		return Series{}, api.ErrConflict
	}
	end := len(a.Samples)
	if b.Start != a.Start+end {
		return Series{}, api.ErrOrder
	}
	samples := list.Changed(slices.Concat(a.Samples, b.Samples), plain)
	gaps := united(a.Gaps, list.Changed(b.Gaps, func(g api.Span) api.Span {
		return api.Span{From: g.From + end, To: g.To + end}
	}))
	if len(samples) > api.MaxTime || len(gaps) > api.MaxSpans {
		return Series{}, api.ErrMany
	}
	return Series{Name: a.Name, Start: a.Start, Samples: samples, Gaps: gaps}, api.OK
}
