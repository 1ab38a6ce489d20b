package load_test

import (
	"math"
	"math/rand"
	"slices"
	"strings"
	"testing"

	"nacelle/api"
	"nacelle/load"
	"nacelle/site"
)

func TestP71CheckLoads(t *testing.T) {
	for _, l := range [][]int{nil, {0}, {32768, -32768}, example(), make([]int, 40000)} {
		check(t, "CheckLoads", results(load.CheckLoads(l)), api.OK)
	}
	for _, row := range wrongLoads {
		check(t, "CheckLoads", results(load.CheckLoads(row.l)), row.e)
		check(t, "Reversals", results(load.Reversals(row.l)), noReversals, row.e)
	}
}

// series returns a series with samples, and with gaps: From and To of each one in turn.
func series(samples []float32, gaps ...int) site.Series {
	out := site.Series{Name: "wave", Start: 100, Samples: samples}
	for gap := range slices.Chunk(gaps, 2) {
		out.Gaps = append(out.Gaps, api.Span{From: gap[0], To: gap[1]})
	}
	return out
}

func TestP71OfSeries(t *testing.T) {
	zero := float32(math.Copysign(0, -1))
	for _, row := range []struct {
		s    site.Series
		want []int
	}{
		{series(nil), nil}, {series([]float32{1, 2.5, 0, 0.5, 3, 1, 1}, 2, 3), []int{16, 40, 8, 48, 16, 16}}, {series([]float32{1, 2.5, 0, 0.5}), []int{16, 40, 0, 8}}, {series([]float32{2048, -2048, 0.0625, -0.0625, zero}), []int{32768, -32768, 1, -1, 0}},
		{series([]float32{0, 1, 2}, 0, 1), []int{16, 32}}, {series([]float32{1, 2, 0, zero}, 2, 4), []int{16, 32}}, {series([]float32{0, 0}, 0, 2), nil}, {series([]float32{0, 1, 0, 0, 2, 0}, 0, 1, 2, 4, 5, 6), []int{16, 32}},
		{series(make([]float32, 40000)), make([]int, 40000)}, {series(make([]float32, 40000), 1, 39999), []int{0, 0}},
	} {
		check(t, "OfSeries", results(load.OfSeries(row.s)), row.want, api.OK)
	}
	combed := series(make([]float32, 2049))
	var want []int
	for q := range 1024 { // a gap at each second quarter
		combed.Gaps = append(combed.Gaps, api.Span{From: 2*q + 1, To: 2*q + 2})
	}
	for q := range 1025 {
		combed.Samples[2*q] = float32(q)
		want = append(want, 16*q)
	}
	check(t, "OfSeries with many gaps", results(load.OfSeries(combed)), want, api.OK)
	unnamed := series(nil)
	unnamed.Name = ""
	for _, row := range []struct {
		s site.Series
		e api.Errno
	}{
		{unnamed, api.ErrName}, {site.Series{Name: "a", Start: -1}, api.ErrRange}, {series(make([]float32, 40001)), api.ErrMany}, {series([]float32{2048.0625}), api.ErrRange}, {series([]float32{0.03125}), api.ErrRange}, {series([]float32{float32(math.NaN())}), api.ErrForm}, {series([]float32{1}, 0, 1), api.ErrGap}, {series([]float32{1}, 0, 2), api.ErrSpan}, {series([]float32{1}, -1, 1), api.ErrSpan}, {series([]float32{0, 0}, 1, 2, 0, 1), api.ErrOrder},
	} {
		check(t, "OfSeries", results(load.OfSeries(row.s)), noLoads, row.e)
	}
}

func TestP71Reversals(t *testing.T) {
	for _, row := range []struct {
		l    []int
		want []load.Reversal
	}{
		{example(), turned()}, {nil, nil}, {[]int{7}, steps(7)}, {[]int{7, 7, 7}, steps(7)}, {[]int{-32768, 32768}, steps(-32768, 32768)}, {[]int{1, 2, 3, 4}, reversals(0, 1, 3, 4)}, {[]int{4, 3, 2, 2, 1}, reversals(0, 4, 4, 1)}, {[]int{2, 2, 5}, reversals(0, 2, 2, 5)}, {[]int{2, 5, 5, 5}, reversals(0, 2, 1, 5)}, {[]int{2, 5, 5, 2, 2}, reversals(0, 2, 1, 5, 3, 2)}, {[]int{0, 3, 3, 5, 5, 1}, reversals(0, 0, 3, 5, 5, 1)}, {[]int{5, 3, 3, 0, 0, 1}, reversals(0, 5, 3, 0, 5, 1)}, {[]int{0, 1, 0, 1, 0}, steps(0, 1, 0, 1, 0)},
		{make([]int, 40000), steps(0)}, {zigzag(40000, -32768, 32768), steps(zigzag(40000, -32768, 32768)...)},
	} {
		check(t, "Reversals", results(load.Reversals(row.l)), row.want, api.OK)
	}
}

func TestP71CheckReversals(t *testing.T) {
	for _, l := range [][]load.Reversal{nil, turned(), residue(), reversals(39999, 32768), reversals(0, -32768, 39999, 32768), reversals(5, 0, 6, -1, 9, 4), steps(zigzag(40000, 0, 1)...)} {
		check(t, "CheckReversals", results(load.CheckReversals(l)), api.OK)
	}
	for _, row := range wrongReversals {
		check(t, "CheckReversals", results(load.CheckReversals(row.l)), row.e)
	}
}

// TestP71ReversalsOtherwise compares with what the definitions say, also for lists that are no reversals.
func TestP71ReversalsOtherwise(t *testing.T) {
	r := rand.New(rand.NewSource(1))
	for range 3000 {
		l := randomLoads(r, 12)
		want := slowReversals(steps(l...))
		check(t, "Reversals", results(load.Reversals(l)), want, api.OK)
		check(t, "CheckReversals", results(load.CheckReversals(want)), api.OK)
		e := api.OK
		if len(want) < len(l) {
			e = api.ErrShape
		}
		check(t, "CheckReversals of any points", results(load.CheckReversals(steps(l...))), e)
	}
}

func TestP71Texts(t *testing.T) {
	long := steps(zigzag(40000, -32768, 32767)...)
	for _, row := range []struct {
		l    []load.Reversal
		want string
	}{{nil, ""}, {turned(), "0 0\n1 5\n3 2\n4 4\n5 -1\n7 6\n"}, {reversals(39999, -32768), "39999 -32768\n"}, {reversals(10, 0, 200, 32768), "10 0\n200 32768\n"}} {
		check(t, "Print", results(load.Print(row.l)), row.want, api.OK)
		check(t, "Parse", results(load.Parse(row.want)), row.l, 0, api.OK)
	}
	s, e := load.Print(long)
	check(t, "Print of many", results(len(s) < api.MaxLog, e), true, api.OK)
	check(t, "Parse of many", results(load.Parse(s)), long, 0, api.OK)
	for _, row := range wrongReversals {
		check(t, "Print", results(load.Print(row.l)), "", row.e)
	}
}

func TestP71ParseErrors(t *testing.T) {
	for _, row := range []struct {
		s string
		i int
		e api.Errno
	}{
		{"\n", 0, api.ErrSyntax}, {"1 2", 0, api.ErrSyntax}, {"1 2\n2 3", 1, api.ErrSyntax}, {"1 2\n\n", 1, api.ErrSyntax}, {"1 2\n2 3\nx", 2, api.ErrSyntax}, {"1\n", 0, api.ErrSyntax}, {"1 \n", 0, api.ErrSyntax}, {" 1\n", 0, api.ErrSyntax}, {" 1 2\n", 0, api.ErrSyntax}, {"1 2 \n", 0, api.ErrSyntax}, {"1  2\n", 0, api.ErrSyntax}, {"1 2 3\n", 0, api.ErrSyntax}, {"1\t2\n", 0, api.ErrSyntax}, {"1 2\r\n", 0, api.ErrSyntax},
		{"x 2\n", 0, api.ErrSyntax}, {"1 x\n", 0, api.ErrSyntax}, {"-0 2\n", 0, api.ErrSyntax}, {"1 -0\n", 0, api.ErrSyntax}, {"01 2\n", 0, api.ErrSyntax}, {"1 02\n", 0, api.ErrSyntax}, {"1 -02\n", 0, api.ErrSyntax}, {"+1 2\n", 0, api.ErrSyntax}, {"1 +2\n", 0, api.ErrSyntax}, {"1 --2\n", 0, api.ErrSyntax}, {"1 -\n", 0, api.ErrSyntax}, {"1 1000000000\n", 0, api.ErrSyntax}, {"1000000000 1\n", 0, api.ErrSyntax}, {"1 -1000000000\n", 0, api.ErrSyntax}, {"1 2.0\n", 0, api.ErrSyntax}, {"1 99999999999999999999\n", 0, api.ErrSyntax}, {"1 \u0662\n", 0, api.ErrSyntax},
		{"-1 2\n", 1, api.ErrRange}, {"40000 2\n", 1, api.ErrRange}, {"1 32769\n", 1, api.ErrRange}, {"1 -32769\n", 1, api.ErrRange}, {"999999999 999999999\n", 1, api.ErrRange}, {"1 -999999999\n", 1, api.ErrRange}, {"-1 0\nx\n", 1, api.ErrSyntax}, {"1 2\n1 3\n", 2, api.ErrOrder}, {"1 2\n2 2\n", 2, api.ErrShape}, {"1 2\n2 3\n3 4\n4 0\n", 4, api.ErrShape},
		{strings.Repeat("0 0\n", 40001), 40001, api.ErrMany}, {strings.Repeat("0 0\n", 40000), 40000, api.ErrOrder}, {strings.Repeat("0 0\n", 250000), 250000, api.ErrMany}, {strings.Repeat("0 0\n", 250000) + "x", 0, api.ErrLong}, {strings.Repeat("x", 1000000), 0, api.ErrSyntax}, {strings.Repeat("x", 1000001), 0, api.ErrLong},
	} {
		check(t, "Parse of "+row.s[:min(len(row.s), 40)], results(load.Parse(row.s)), noReversals, row.i, row.e)
	}
}

func TestP71ParseOtherwise(t *testing.T) {
	r := rand.New(rand.NewSource(2))
	for range 2000 {
		s, e := load.Print(append(steps(5, -3), randomReversals(r, 4)...))
		if e != api.OK {
			continue
		}
		changed := []byte(s)
		changed[r.Intn(len(s))] = "0123456789- \nx"[r.Intn(14)]
		l, i, e := load.Parse(string(changed))
		if e != api.OK {
			check(t, "the index of an error", results(0 <= i && i <= strings.Count(string(changed), "\n")+1, l), true, noReversals)
			continue
		}
		check(t, "the text of what was parsed", results(load.Print(l)), string(changed), api.OK)
	}
}
