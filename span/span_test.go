package span_test

import (
	"math"
	"slices"
	"testing"

	"nacelle/api"
	"nacelle/span"
)

// spans returns the spans from each first number to each second one.
func spans(ends ...[2]int) []api.Span {
	var out []api.Span
	for _, e := range ends {
		out = append(out, api.Span{From: e[0], To: e[1]})
	}
	return out
}

func TestQuarters(t *testing.T) {
	for _, row := range []struct {
		l    []api.Span
		want []int
	}{
		{nil, nil}, {spans([2]int{3, 5}), []int{3, 4}}, {spans([2]int{0, 1}, [2]int{4, 7}, [2]int{9, 10}), []int{0, 4, 5, 6, 9}},
	} {
		if got := slices.Collect(span.Quarters(row.l)); !slices.Equal(got, row.want) {
			t.Errorf("Quarters of %v: got %v, want %v", row.l, got, row.want)
		}
	}
	for q := range span.Quarters(spans([2]int{0, 3}, [2]int{5, 6})) {
		if q == 1 {
			break
		}
		if q > 1 {
			t.Errorf("Quarters goes on at %v", q)
		}
	}
}

func TestOf(t *testing.T) {
	for _, row := range []struct {
		quarters []int
		want     []api.Span
	}{
		{nil, nil}, {[]int{3}, spans([2]int{3, 4})}, {[]int{0, 1, 2}, spans([2]int{0, 3})}, {[]int{0, 2, 3, 7, 9, 10}, spans([2]int{0, 1}, [2]int{2, 4}, [2]int{7, 8}, [2]int{9, 11})},
	} {
		if got := span.Of(slices.Values(row.quarters)); !slices.Equal(got, row.want) {
			t.Errorf("Of %v: got %v, want %v", row.quarters, got, row.want)
		}
	}
}

func TestLasting(t *testing.T) {
	l := spans([2]int{0, 1}, [2]int{2, 4}, [2]int{7, 8}, [2]int{9, 12})
	for _, row := range []struct {
		least int
		want  []api.Span
	}{{1, l}, {2, spans([2]int{2, 4}, [2]int{9, 12})}, {3, spans([2]int{9, 12})}, {4, nil}} {
		if got := span.Lasting(l, row.least); !slices.Equal(got, row.want) {
			t.Errorf("Lasting %v: got %v, want %v", row.least, got, row.want)
		}
	}
	span.Lasting(l, 1)[0].To = 77
	if l[0] != (api.Span{From: 0, To: 1}) {
		t.Errorf("Lasting shares memory with its argument")
	}
	if n := span.Length(l[3]); n != 3 {
		t.Errorf("Length: got %v", n)
	}
}

func TestLies(t *testing.T) {
	l := spans([2]int{2, 4}, [2]int{7, 12})
	for _, row := range []struct {
		from, need int
		want       bool
	}{
		{1, 1, false}, {2, 1, true}, {2, 2, true}, {2, 3, false}, {3, 1, true}, {3, 2, false}, {4, 1, false}, {7, 5, true}, {7, 6, false}, {6, 6, false}, {11, 1, true}, {12, 1, false}, {math.MaxInt, 1, false}, {math.MinInt, 1, false}, {2, math.MaxInt, false},
	} {
		if got := span.Lies(l, row.from, row.need); got != row.want {
			t.Errorf("Lies from %v for %v: got %v, want %v", row.from, row.need, got, row.want)
		}
	}
	if span.Lies(nil, 0, 1) {
		t.Errorf("Lies in no spans")
	}
}

func TestFit(t *testing.T) {
	l := spans([2]int{2, 4}, [2]int{7, 12}, [2]int{14, 15})
	for _, row := range []struct {
		from, need, want int
		ok               bool
	}{
		{0, 1, 2, true}, {0, 2, 2, true}, {2, 2, 2, true}, {3, 1, 3, true}, {3, 2, 7, true}, {0, 3, 7, true}, {0, 5, 7, true}, {8, 4, 8, true}, {9, 4, 0, false}, {0, 6, 0, false}, {12, 1, 14, true}, {14, 1, 14, true}, {15, 1, 0, false}, {11, 2, 0, false}, {math.MaxInt, 1, 0, false}, {math.MinInt, 2, 2, true}, {0, math.MaxInt, 0, false},
	} {
		if got, ok := span.Fit(l, row.from, row.need); got != row.want || ok != row.ok {
			t.Errorf("Fit from %v of %v: got %v, %v, want %v, %v", row.from, row.need, got, ok, row.want, row.ok)
		}
	}
	if got, ok := span.Fit(nil, 0, 1); got != 0 || ok {
		t.Errorf("Fit in no spans: got %v, %v", got, ok)
	}
}
