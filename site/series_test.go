package site_test

import (
	"math"
	"testing"

	"nacelle/api"
	"nacelle/site"
)

var negativeZero = float32(math.Copysign(0, -1))

func TestP15Check(t *testing.T) {
	nan := float32(math.NaN())
	for _, row := range []struct {
		name string
		f    func(s *site.Series)
		e    api.Errno
	}{
		{"as it is", func(s *site.Series) {}, api.OK},
		{"nothing", func(s *site.Series) { s.Samples, s.Gaps = nil, nil }, api.OK},
		{"-0 in a gap", func(s *site.Series) { s.Samples[2] = negativeZero }, api.OK},
		{"a gap to the end", func(s *site.Series) { s.Samples[6], s.Gaps = 0, spans(2, 3, 6, 7) }, api.OK},
		{"no name", func(s *site.Series) { s.Name = "" }, api.ErrName},
		{"no name and start", func(s *site.Series) { s.Name, s.Start = "", -1 }, api.ErrName},
		{"start", func(s *site.Series) { s.Start = -1 }, api.ErrRange},
		{"greatest start", func(s *site.Series) { s.Start = 999999999 }, api.OK},
		{"start above", func(s *site.Series) { s.Start = 1000000000 }, api.ErrRange},
		{"start and many", func(s *site.Series) { s.Start, s.Samples = -1, make([]float32, 40001) }, api.ErrRange},
		{"40000 samples", func(s *site.Series) { s.Samples = make([]float32, 40000) }, api.OK},
		{"many", func(s *site.Series) { s.Samples = make([]float32, 40001); s.Samples[0] = nan }, api.ErrMany},
		{"NaN", func(s *site.Series) { s.Samples[1] = nan; s.Samples[3] = 0.01 }, api.ErrForm},
		{"no sixteenth", func(s *site.Series) { s.Samples[1] = 0.01; s.Samples[3] = nan }, api.ErrRange},
		{"sample and gaps", func(s *site.Series) { s.Samples[0] = nan; s.Gaps = spans(3, 2) }, api.ErrForm},
		{"many gaps", func(s *site.Series) { s.Gaps = make([]api.Span, 1025) }, api.ErrMany},
		{"gap that is none", func(s *site.Series) { s.Gaps = spans(-1, 3) }, api.ErrSpan},
		{"gaps that touch", func(s *site.Series) { s.Gaps = spans(2, 3, 3, 4) }, api.ErrOrder},
		{"order before the end", func(s *site.Series) { s.Gaps = spans(2, 9, 3, 4) }, api.ErrOrder},
		{"gap behind the end", func(s *site.Series) { s.Gaps = spans(2, 3, 6, 8) }, api.ErrSpan},
		{"gap far behind the end", func(s *site.Series) { s.Gaps = spans(2, 3, 30000, 40000) }, api.ErrSpan},
		{"behind the end before 0", func(s *site.Series) { s.Gaps = spans(0, 3, 6, 8) }, api.ErrSpan},
		{"sample in a gap", func(s *site.Series) { s.Samples[2] = 1 }, api.ErrGap},
		{"last sample of a gap", func(s *site.Series) { s.Gaps = spans(2, 4) }, api.ErrGap},
	} {
		s := wave()
		row.f(&s)
		check(t, row.name, site.CheckSeries(s), row.e)
		c, e := site.Encode(s)
		check(t, row.name+", encoded", e, row.e)
		if row.e != api.OK {
			checkZero(t, row.name, c)
		}
	}
}

func TestP15Summary(t *testing.T) {
	for _, row := range []struct {
		s    site.Series
		want site.Statistics
		e    api.Errno
	}{
		{wave(), site.Statistics{Count: 6, Sum: 144, Least: 0.5, Most: 3}, api.OK},
		{site.Series{Name: "x", Samples: []float32{-1.0625, -3}}, site.Statistics{Count: 2, Sum: -65, Least: -3, Most: -1.0625}, api.OK},
		{site.Series{Name: "x", Samples: []float32{0, 4}, Gaps: spans(0, 1)}, site.Statistics{Count: 1, Sum: 64, Least: 4, Most: 4}, api.OK},
		{site.Series{Name: "x"}, site.Statistics{}, api.ErrEmpty},
		{site.Series{Name: "x", Samples: []float32{0}, Gaps: spans(0, 1)}, site.Statistics{}, api.ErrEmpty},
		{site.Series{}, site.Statistics{}, api.ErrName},
	} {
		x, e := site.Summary(row.s)
		check(t, "Summary", e, row.e)
		check(t, "Summary", x, row.want)
	}
	long := site.Series{Name: "x", Samples: make([]float32, 40000)}
	for i := range long.Samples {
		long.Samples[i] = -2048
	}
	x, _ := site.Summary(long)
	check(t, "Summary of the longest series", x, site.Statistics{Count: 40000, Sum: -40000 * 2048 * 16, Least: -2048, Most: -2048})
	x, _ = site.Summary(site.Series{Name: "x", Samples: []float32{negativeZero}})
	check(t, "the zeros of Summary", [2]bool{math.Signbit(float64(x.Least)), math.Signbit(float64(x.Most))}, [2]bool{})
}

func TestP15Spells(t *testing.T) {
	for _, row := range []struct {
		level float32
		least int
		want  []api.Span
	}{
		{1, 1, spans(0, 1, 3, 4, 5, 7)}, {1, 2, spans(5, 7)}, {1, 3, nil}, {3, 1, spans(0, 2, 3, 7)}, {3, 4, spans(3, 7)}, {0, 1, nil}, {negativeZero, 1, nil},
		{2.5, 2, spans(0, 2, 5, 7)}, {0.5, 1, spans(3, 4)}, {2048, 40000, nil}, {-2048, 1, nil},
	} {
		l, e := site.Spells(wave(), row.level, row.least)
		check(t, "Spells", e, api.OK)
		checkList(t, "Spells", l, row.want)
	}
	zeros := site.Series{Name: "x", Samples: make([]float32, 40000)}
	l, _ := site.Spells(zeros, 0, 40000)
	checkList(t, "Spells of all", l, spans(0, 40000))
	l, e := site.Spells(site.Series{Name: "x"}, 0, 1)
	check(t, "Spells of nothing", e, api.OK)
	checkList(t, "Spells of nothing", l, nil)
}

func TestP15SpellErrors(t *testing.T) {
	for _, row := range []struct {
		s     site.Series
		level float32
		least int
		e     api.Errno
	}{
		{site.Series{}, 0.01, 0, api.ErrName}, {wave(), 0.01, 0, api.ErrRange}, {wave(), float32(math.NaN()), 0, api.ErrForm}, {wave(), float32(math.Inf(1)), 1, api.ErrForm},
		{wave(), 2048.0625, 1, api.ErrRange}, {wave(), 1, 0, api.ErrRange}, {wave(), 1, -1, api.ErrRange}, {wave(), 1, 40001, api.ErrRange}, {wave(), 1, math.MaxInt, api.ErrRange},
	} {
		l, e := site.Spells(row.s, row.level, row.least)
		check(t, "Spells", e, row.e)
		checkZero(t, "Spells", l)
	}
	comb := site.Series{Name: "x", Samples: make([]float32, 2050)}
	for i := range 2050 {
		comb.Samples[i] = float32(i % 2)
	}
	l, e := site.Spells(comb, 0, 1)
	check(t, "1025 spells", e, api.ErrMany)
	checkZero(t, "1025 spells", l)
	comb.Samples[2048] = 1
	l, e = site.Spells(comb, 0, 1)
	check(t, "1024 spells", e, api.OK)
	check(t, "1024 spells", len(l), 1024)
	comb.Samples[2048], comb.Samples[1] = 0, 0
	l, e = site.Spells(comb, 0, 2)
	check(t, "one long spell among 1024", e, api.OK)
	checkList(t, "one long spell among 1024", l, spans(0, 3))
	comb.Samples[1], comb.Samples[2049] = 1, 0
	l, e = site.Spells(comb, 0, 2)
	check(t, "one long spell among 1025", e, api.OK)
	checkList(t, "one long spell among 1025", l, spans(2048, 2050))
}

func TestP15Append(t *testing.T) {
	more := site.Series{Name: "wave", Start: 107, Samples: []float32{0, 5}, Gaps: spans(0, 1)}
	a := wave()
	got, e := site.Append(a, more)
	check(t, "Append", e, api.OK)
	checkSeries(t, "Append", got, site.Series{Name: "wave", Start: 100, Samples: []float32{1, 2.5, 0, 0.5, 3, 1, 1, 0, 5}, Gaps: spans(2, 3, 7, 8)})
	got.Samples[0], got.Gaps[0].From = 9, 0
	checkSeries(t, "the argument of Append", a, wave())
	checkList(t, "the second argument of Append", more.Gaps, spans(0, 1))
	a.Samples[6], a.Gaps = 0, spans(2, 3, 6, 7)
	got, _ = site.Append(a, more)
	checkList(t, "Append of gaps that touch", got.Gaps, spans(2, 3, 6, 8))
	got, e = site.Append(wave(), site.Series{Name: "wave", Start: 107})
	check(t, "Append of nothing", e, api.OK)
	checkSeries(t, "Append of nothing", got, wave())
	got, _ = site.Append(site.Series{Name: "wave", Start: 100}, wave())
	checkSeries(t, "Append to nothing", got, wave())
	got, _ = site.Append(site.Series{Name: "x", Samples: []float32{negativeZero}}, site.Series{Name: "x", Start: 1})
	check(t, "the zero of Append", math.Signbit(float64(got.Samples[0])), false)
}

func TestP15AppendErrors(t *testing.T) {
	full := site.Series{Name: "wave", Start: 0, Samples: make([]float32, 40000)}
	comb := site.Series{Name: "wave", Start: 0, Samples: make([]float32, 2048), Gaps: combs(1024, 2, 0)}
	other := wave()
	other.Name = "tide"
	for _, row := range []struct {
		name string
		a, b site.Series
		e    api.Errno
	}{
		{"both none", site.Series{Name: "x", Start: -1}, site.Series{}, api.ErrRange},
		{"second none", wave(), site.Series{}, api.ErrName},
		{"names and starts", wave(), other, api.ErrConflict},
		{"starts", wave(), wave(), api.ErrOrder},
		{"too early", wave(), site.Series{Name: "wave", Start: 106}, api.ErrOrder},
		{"too late", wave(), site.Series{Name: "wave", Start: 108}, api.ErrOrder},
		{"starts before many", full, full, api.ErrOrder},
		{"samples", full, site.Series{Name: "wave", Start: 40000, Samples: []float32{1}}, api.ErrMany},
		{"no more samples", full, site.Series{Name: "wave", Start: 40000}, api.OK},
		{"gaps", comb, site.Series{Name: "wave", Start: 2048, Samples: []float32{0}, Gaps: spans(0, 1)}, api.ErrMany},
		{"no more gaps", comb, site.Series{Name: "wave", Start: 2048, Samples: []float32{0}}, api.OK},
	} {
		got, e := site.Append(row.a, row.b)
		check(t, row.name, e, row.e)
		if row.e != api.OK {
			checkZero(t, row.name, got)
		}
	}
	comb.Samples, comb.Gaps[1023] = comb.Samples[:2047], api.Span{From: 2046, To: 2047}
	got, e := site.Append(comb, site.Series{Name: "wave", Start: 2047, Samples: []float32{0}, Gaps: spans(0, 1)})
	check(t, "1024 gaps and one that touches", e, api.OK)
	check(t, "1024 gaps and one that touches", len(got.Gaps), 1024)
}
