// Package span has what several layers do with spans of quarters of an hour.
package span

import (
	"iter"
	"slices"

	"nacelle/api"
	"nacelle/list"
)

// Quarters visits the quarters of a list of spans, in order.
func Quarters(l []api.Span) iter.Seq[int] {
	return func(yield func(int) bool) {
		for _, s := range l {
			for q := s.From; q < s.To; q++ {
				if !yield(q) {
					return
				}
			}
		}
	}
}

// Of returns the spans of successive quarters, as long as they can be. The quarters are visited in ascending order.
func Of(quarters iter.Seq[int]) []api.Span {
	var out []api.Span
	for q := range quarters {
		if last := len(out) - 1; last >= 0 && out[last].To == q {
			out[last].To++
		} else {
			out = append(out, api.Span{From: q, To: q + 1})
		}
	}
	return out
}

// Length returns how many quarters a span has.
func Length(s api.Span) int { return s.To - s.From }

// Lasting returns a new list with those spans that have at least so many quarters.
func Lasting(l []api.Span, least int) []api.Span {
	return list.Kept(l, func(s api.Span) bool { return Length(s) >= least })
}

// Lies reports whether so many quarters from a quarter on lie in one span of a list.
func Lies(l []api.Span, from, need int) bool {
	return slices.ContainsFunc(l, func(s api.Span) bool { return s.From <= from && need <= s.To-from })
}

// Fit returns the least quarter, from a quarter on, from which so many quarters lie in one span of a list in order.
func Fit(l []api.Span, from, need int) (int, bool) {
	for _, s := range l {
		if start := max(s.From, from); need <= s.To-start {
			return start, true
		}
	}
	return 0, false
}
