package site_test

import (
	"math/rand"
	"reflect"
	"slices"
	"testing"

	"nacelle/api"
	"nacelle/site"
)

// check reports a result that is not the expected one.
func check[T comparable](t *testing.T, what string, got, want T) {
	t.Helper()
	if got != want {
		t.Errorf("%s: got %v, want %v", what, got, want)
	}
}

// checkList reports a list that is not the expected one; empty lists are equal.
func checkList[T comparable](t *testing.T, what string, got, want []T) {
	t.Helper()
	if !slices.Equal(got, want) {
		t.Errorf("%s: got %v, want %v", what, got, want)
	}
}

// checkZero reports a result beside an error that is not the zero value.
func checkZero(t *testing.T, what string, results ...any) {
	t.Helper()
	for _, r := range results {
		v := reflect.ValueOf(r)
		if v.Kind() == reflect.Slice && v.Len() == 0 {
			continue
		}
		if v.IsValid() && !v.IsZero() {
			t.Errorf("%s: got %v beside an error", what, r)
		}
	}
}

func checkSite(t *testing.T, what string, got, want site.Site) {
	t.Helper()
	if got.Name != want.Name || got.Least != want.Least || !slices.Equal(got.Turbines, want.Turbines) {
		t.Errorf("%s: got %v, want %v", what, got, want)
	}
}

func checkSeries(t *testing.T, what string, got, want site.Series) {
	t.Helper()
	if got.Name != want.Name || got.Start != want.Start || !slices.Equal(got.Samples, want.Samples) || !slices.Equal(got.Gaps, want.Gaps) {
		t.Errorf("%s: got %v, want %v", what, got, want)
	}
}

// spans returns a list of spans: From and To of each one in turn.
func spans(n ...int) []api.Span {
	var out []api.Span
	for i := 0; i < len(n); i += 2 {
		out = append(out, api.Span{From: n[i], To: n[i+1]})
	}
	return out
}

// combs returns so many spans of one quarter each, one every so many quarters, from a first one on.
func combs(count, every, from int) []api.Span {
	var out []api.Span
	for i := range count {
		out = append(out, api.Span{From: from + i*every, To: from + i*every + 1})
	}
	return out
}

func at(x, y int) api.Point { return api.Point{X: x, Y: y} }

// north is the site F of the chapter's examples.
func north() site.Site {
	return site.Site{Name: "north", Least: 5, Turbines: []site.Turbine{{Name: "a"}, {Name: "b", At: at(6, 0)}, {Name: "c", At: at(3, 4)}}}
}

// wave is the series S of the chapter's examples.
func wave() site.Series {
	return site.Series{Name: "wave", Start: 100, Samples: []float32{1, 2.5, 0, 0.5, 3, 1, 1}, Gaps: spans(2, 3)}
}

// randomSpans returns a canonical list of spans before an end, and the quarters that are in it.
func randomSpans(r *rand.Rand, end int) ([]api.Span, []bool) {
	in := make([]bool, end)
	for i := range in {
		in[i] = r.Intn(2) == 0
	}
	return spansOf(in), in
}

// spansOf returns the canonical list of quarters, found one by one.
func spansOf(in []bool) []api.Span {
	var out []api.Span
	for q := range in {
		switch {
		case !in[q]:
		case q > 0 && in[q-1]:
			out[len(out)-1].To++
		default:
			out = append(out, api.Span{From: q, To: q + 1})
		}
	}
	return out
}

// randomSeries returns a series with gaps, whose samples are from 0 to 7.
func randomSeries(r *rand.Rand, start, count int) site.Series {
	gaps, in := randomSpans(r, count)
	s := site.Series{Name: "wave", Start: start, Gaps: gaps}
	for i := range count {
		x := float32(0)
		if !in[i] {
			x = float32(r.Intn(8))
		}
		s.Samples = append(s.Samples, x)
	}
	return s
}

// randomSite returns a site whose turbines stand on a grid.
func randomSite(r *rand.Rand) site.Site {
	s := site.Site{Name: "n", Least: 10}
	for i := range 1 + r.Intn(12) {
		s.Turbines = append(s.Turbines, site.Turbine{Name: "t" + string(rune('a'+i)), At: at(20*i-100+r.Intn(10), r.Intn(200)-100)})
	}
	return s
}
