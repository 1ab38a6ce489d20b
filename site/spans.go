package site

import (
	"cmp"
	"slices"

	"nacelle/api"
	"nacelle/check"
	"nacelle/list"
	"nacelle/span"
)

// CheckSpan returns the error of a span, or OK.
func CheckSpan(s api.Span) api.Errno {
	if s.From < 0 || s.From >= s.To || s.To > api.MaxTime {
		return api.ErrSpan
	}
	return api.OK
}

// CheckSpans returns the first error of a canonical list of spans, or OK.
func CheckSpans(l []api.Span) api.Errno {
	return check.First(check.Many(len(l), api.MaxSpans), check.Row(l, api.Span{To: -1}, func(before, s api.Span) api.Errno {
		return check.First(CheckSpan(s), check.Order(before.To < s.From))
	}))
}

// Canon returns the canonical list of the quarters of any spans.
func Canon(l []api.Span) ([]api.Span, api.Errno) {
	if e := check.First(check.Many(len(l), api.MaxSpans), check.Each(l, CheckSpan)); e != api.OK {
		return nil, e
	}
	return united(l), api.OK
}

// Join returns the quarters of one list or the other one.
func Join(a, b []api.Span) ([]api.Span, api.Errno) {
	return combined(a, b, func(a, b []api.Span) []api.Span { return united(a, b) })
}

// Meet returns the quarters of both lists.
func Meet(a, b []api.Span) ([]api.Span, api.Errno) { return combined(a, b, common) }

// Minus returns the quarters of the first list alone.
func Minus(a, b []api.Span) ([]api.Span, api.Errno) { return combined(a, b, lacking) }

// Total returns the number of quarters of a list.
func Total(l []api.Span) (int, api.Errno) {
	if e := CheckSpans(l); e != api.OK {
		return 0, e
	}
	return list.Sum(list.Changed(l, span.Length)), api.OK
}

// combined returns what an operation makes of two canonical lists, if it is not too long.
func combined(a, b []api.Span, operation func(a, b []api.Span) []api.Span) ([]api.Span, api.Errno) {
	if e := check.First(CheckSpans(a), CheckSpans(b)); e != api.OK {
		return nil, e
	}
	return bounded(operation(a, b))
}

// bounded returns a list of spans, or ErrMany if there are too many.
func bounded(l []api.Span) ([]api.Span, api.Errno) {
	if len(l) > api.MaxSpans {
		return nil, api.ErrMany
	}
	return l, api.OK
}

// united returns the canonical list of the quarters of several lists in any order.
func united(lists ...[]api.Span) []api.Span {
	sorted := slices.Concat(lists...)
	slices.SortFunc(sorted, func(a, b api.Span) int { return cmp.Compare(a.From, b.From) })
	var out []api.Span
	for _, s := range sorted {
		if last := len(out) - 1; last >= 0 && s.From <= out[last].To {
			out[last].To = max(out[last].To, s.To)
		} else {
			out = append(out, s)
		}
	}
	return out
}

// common returns the quarters of both canonical lists.
func common(a, b []api.Span) []api.Span {
	var out []api.Span
	for len(a) > 0 && len(b) > 0 {
		piece := api.Span{From: max(a[0].From, b[0].From), To: min(a[0].To, b[0].To)}
		if piece.From < piece.To {
			out = append(out, piece)
		}
		if a[0].To < b[0].To {
			a = a[1:]
		} else {
			b = b[1:]
		}
	}
	return out
}

// lacking returns the quarters of the first canonical list that are not in the second one.
func lacking(a, b []api.Span) []api.Span { return common(a, rest(b)) }

// rest returns all quarters that are not in a canonical list.
func rest(l []api.Span) []api.Span {
	var out []api.Span
	from := 0
	for _, s := range l {
		if from < s.From {
			out = append(out, api.Span{From: from, To: s.From})
		}
		from = s.To
	}
	if from < api.MaxTime {
		out = append(out, api.Span{From: from, To: api.MaxTime})
	}
	return out
}
