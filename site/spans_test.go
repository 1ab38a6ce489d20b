package site_test

import (
	"math"
	"slices"
	"testing"

	"nacelle/api"
	"nacelle/site"
)

func TestP12CheckSpan(t *testing.T) {
	for _, row := range []struct {
		from, to int
		e        api.Errno
	}{
		{0, 1, api.OK}, {0, 40000, api.OK}, {39999, 40000, api.OK},
		{-1, 1, api.ErrSpan}, {1, 1, api.ErrSpan}, {2, 1, api.ErrSpan}, {0, 0, api.ErrSpan}, {39999, 40001, api.ErrSpan}, {40000, 40001, api.ErrSpan},
		{math.MinInt, math.MaxInt, api.ErrSpan}, {0, math.MaxInt, api.ErrSpan},
	} {
		check(t, "CheckSpan", site.CheckSpan(api.Span{From: row.from, To: row.to}), row.e)
	}
}

func TestP12CheckSpans(t *testing.T) {
	long := combs(1024, 2, 0)
	for _, row := range []struct {
		l []api.Span
		e api.Errno
	}{
		{nil, api.OK}, {spans(0, 1), api.OK}, {spans(0, 1, 2, 3), api.OK}, {long, api.OK},
		{make([]api.Span, 1025), api.ErrMany}, {combs(1025, 2, 0), api.ErrMany},
		{spans(0, 1, 1, 3), api.ErrOrder}, {spans(0, 5, 3, 8), api.ErrOrder}, {spans(5, 6, 0, 1), api.ErrOrder}, {spans(0, 1, 0, 1), api.ErrOrder},
		{spans(0, 1, 5, 5), api.ErrSpan}, {spans(3, 4, 2, 2), api.ErrSpan}, {spans(0, 2, 1, 3, 9, 9), api.ErrOrder}, {spans(9, 9, 0, 2, 1, 3), api.ErrSpan},
	} {
		check(t, "CheckSpans", site.CheckSpans(row.l), row.e)
		n, e := site.Total(row.l)
		check(t, "Total", e, row.e)
		if e != api.OK {
			check(t, "Total beside an error", n, 0)
		}
	}
}

func TestP12Canon(t *testing.T) {
	for _, row := range []struct {
		l    []api.Span
		want []api.Span
		e    api.Errno
	}{
		{spans(0, 5, 3, 8, 9, 10), spans(0, 8, 9, 10), api.OK}, {spans(9, 10, 3, 8, 0, 5), spans(0, 8, 9, 10), api.OK},
		{nil, nil, api.OK}, {spans(0, 9, 2, 3), spans(0, 9), api.OK}, {spans(2, 3, 0, 9), spans(0, 9), api.OK}, {spans(1, 2, 2, 3), spans(1, 3), api.OK},
		{spans(1, 2, 1, 2), spans(1, 2), api.OK}, {spans(0, 9, 2, 3, 8, 12), spans(0, 12), api.OK},
		{slices.Repeat(spans(0, 40000), 1024), spans(0, 40000), api.OK}, {combs(1024, 2, 0), combs(1024, 2, 0), api.OK},
		{make([]api.Span, 1025), nil, api.ErrMany}, {spans(0, 1, 3, 2), nil, api.ErrSpan}, {spans(0, 1, -1, 2), nil, api.ErrSpan},
	} {
		before := slices.Clone(row.l)
		l, e := site.Canon(row.l)
		check(t, "Canon", e, row.e)
		checkList(t, "Canon", l, row.want)
		checkList(t, "the argument of Canon", row.l, before)
	}
}

func TestP12Sets(t *testing.T) {
	for _, row := range []struct{ a, b, join, meet, minus []api.Span }{
		{spans(0, 8, 9, 10), spans(8, 9), spans(0, 10), nil, spans(0, 8, 9, 10)},
		{spans(0, 10), spans(3, 5), spans(0, 10), spans(3, 5), spans(0, 3, 5, 10)},
		{spans(0, 4, 6, 9), spans(2, 7), spans(0, 9), spans(2, 4, 6, 7), spans(0, 2, 7, 9)},
		{nil, nil, nil, nil, nil}, {spans(1, 2), nil, spans(1, 2), nil, spans(1, 2)}, {nil, spans(1, 2), spans(1, 2), nil, nil},
		{spans(0, 40000), spans(0, 40000), spans(0, 40000), spans(0, 40000), nil},
		{spans(39999, 40000), spans(0, 1), spans(0, 1, 39999, 40000), nil, spans(39999, 40000)},
	} {
		j, e1 := site.Join(row.a, row.b)
		m, e2 := site.Meet(row.a, row.b)
		x, e3 := site.Minus(row.a, row.b)
		check(t, "Join, Meet and Minus", [3]api.Errno{e1, e2, e3}, [3]api.Errno{})
		checkList(t, "Join", j, row.join)
		checkList(t, "Meet", m, row.meet)
		checkList(t, "Minus", x, row.minus)
	}
	n, _ := site.Total(spans(0, 8, 9, 10))
	check(t, "Total", n, 9)
}

func TestP12SetErrors(t *testing.T) {
	none, touching, many := spans(2, 1), spans(0, 1, 1, 2), make([]api.Span, 1025)
	for name, f := range map[string]func(a, b []api.Span) ([]api.Span, api.Errno){"Join": site.Join, "Meet": site.Meet, "Minus": site.Minus} {
		for _, row := range []struct {
			a, b []api.Span
			e    api.Errno
		}{{none, touching, api.ErrSpan}, {touching, none, api.ErrOrder}, {many, none, api.ErrMany}, {nil, none, api.ErrSpan}, {nil, touching, api.ErrOrder}, {nil, many, api.ErrMany}} {
			l, e := f(row.a, row.b)
			check(t, name, e, row.e)
			checkZero(t, name, l)
		}
	}
}

// TestP12LongResults has results of 1024 and of 1025 spans.
func TestP12LongResults(t *testing.T) {
	half := combs(512, 4, 0)
	l, e := site.Join(half, combs(512, 4, 2))
	check(t, "Join to 1024 spans", e, api.OK)
	check(t, "Join to 1024 spans", len(l), 1024)
	l, e = site.Join(half, combs(513, 4, 2))
	check(t, "Join to 1025 spans", e, api.ErrMany)
	checkZero(t, "Join to 1025 spans", l)
	l, e = site.Minus(spans(0, 40000), combs(1023, 2, 1))
	check(t, "Minus to 1024 spans", e, api.OK)
	check(t, "Minus to 1024 spans", len(l), 1024)
	l, e = site.Minus(spans(0, 40000), combs(1024, 2, 1))
	check(t, "Minus to 1025 spans", e, api.ErrMany)
	checkZero(t, "Minus to 1025 spans", l)
	wide := func(count, every, from, length int) []api.Span {
		out := combs(count, every, from)
		for i := range out {
			out[i].To += length - 1
		}
		return out
	}
	l, e = site.Meet(wide(1024, 12, 0, 11), wide(1, 12, 0, 40000))
	check(t, "Meet to 1024 spans", e, api.OK)
	check(t, "Meet to 1024 spans", len(l), 1024)
	l, e = site.Meet(wide(1024, 12, 0, 11), wide(1024, 12, 6, 11))
	check(t, "Meet to 2047 spans", e, api.ErrMany)
	checkZero(t, "Meet to 2047 spans", l)
}
