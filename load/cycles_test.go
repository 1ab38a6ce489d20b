package load_test

import (
	"math"
	"math/rand"
	"slices"
	"testing"

	"nacelle/api"
	"nacelle/load"
)

func TestP72Count(t *testing.T) {
	for _, row := range []struct {
		l     []load.Reversal
		taken []load.Cycle
		left  []load.Reversal
	}{
		{turned(), cycles(3, 4, 2, 4), residue()}, {nil, nil, nil}, {steps(1), nil, steps(1)}, {steps(0, 9, 3), nil, steps(0, 9, 3)}, {steps(0, 9, 3, 5), nil, steps(0, 9, 3, 5)},
		{steps(0, 2, 0, 2), cycles(1, 2, 0, 2), reversals(0, 0, 3, 2)}, {steps(0, 2, 1, 2), cycles(1, 2, 1, 2), reversals(0, 0, 3, 2)}, {steps(0, 1, 0, 2), cycles(1, 2, 0, 1), reversals(0, 0, 3, 2)}, {steps(2, 0, 2, 0), cycles(1, 2, 0, 2), reversals(0, 2, 3, 0)}, {steps(0, 3, -1, 4), nil, steps(0, 3, -1, 4)}, {steps(0, 3, 1, 2), nil, steps(0, 3, 1, 2)}, {steps(0, 3, -1, 2), nil, steps(0, 3, -1, 2)},
		{steps(0, 8, 2, 6, 4, 7, 1, 9), cycles(3, 4, 4, 6, 2, 5, 2, 7, 1, 6, 1, 8), reversals(0, 0, 7, 9)}, {steps(0, 9, 4, 6, 5, 7, 1), cycles(3, 4, 5, 6, 2, 5, 4, 7), reversals(0, 0, 1, 9, 6, 1)}, {steps(0, 1, 0, 1, 0, 1), cycles(1, 2, 0, 1, 3, 4, 0, 1), reversals(0, 0, 5, 1)}, {reversals(7, -32768, 39998, 32768, 39999, -32768), nil, reversals(7, -32768, 39998, 32768, 39999, -32768)},
		{steps(ramp(40000)...), nil, steps(ramp(40000)...)},
	} {
		check(t, "Count", results(load.Count(row.l)), row.taken, row.left, api.OK)
		check(t, "CheckCount", results(load.CheckCount(row.l, row.taken, row.left)), api.OK)
	}
	taken, left, e := load.Count(steps(zigzag(40000, -1, 1)...))
	check(t, "Count of many", results(len(taken), taken[19998], left, e), 19999, cycles(39997, 39998, -1, 1)[0], reversals(0, -1, 39999, 1), api.OK)
}

func TestP72CheckCount(t *testing.T) {
	two := steps(0, 1, 0, 1, 0, 1)
	for _, row := range []struct {
		l     []load.Reversal
		taken []load.Cycle
		left  []load.Reversal
	}{
		{turned(), nil, residue()}, {turned(), cycles(3, 4, 2, 4), nil}, {turned(), nil, turned()}, {turned(), cycles(3, 4, 2, 4, 3, 4, 2, 4), residue()}, {turned(), cycles(3, 4, 2, 5), residue()}, {turned(), cycles(3, 4, 1, 4), residue()}, {turned(), cycles(4, 4, 2, 4), residue()}, {turned(), cycles(3, 5, 2, 4), residue()}, {turned(), cycles(4, 3, 2, 4), residue()}, {turned(), cycles(3, 4, 2, 4), residue()[:3]}, {turned(), cycles(3, 4, 2, 4), reversals(0, 0, 1, 5, 5, -1, 7, 7)}, {turned(), cycles(3, 4, 2, 4), reversals(0, 0, 1, 5, 5, -1, 6, 6)}, {turned(), make([]load.Cycle, 40001), make([]load.Reversal, 40001)}, {turned(), cycles(math.MinInt, 0, math.MaxInt, 0), reversals(-1, -1)},
		{two, cycles(3, 4, 0, 1, 1, 2, 0, 1), reversals(0, 0, 5, 1)}, {nil, cycles(0, 1, 0, 1), nil}, {nil, nil, steps(0)}, {steps(0), nil, nil},
	} {
		check(t, "CheckCount", results(load.CheckCount(row.l, row.taken, row.left)), api.ErrProof)
	}
}

func TestP72Filter(t *testing.T) {
	nested := steps(0, 8, 2, 6, 4, 7, 1, 9)
	for _, row := range []struct {
		l     []load.Reversal
		least int
		want  []load.Reversal
	}{
		{turned(), 3, residue()}, {turned(), 2, turned()}, {turned(), 999999999, residue()}, {turned(), -999999999, turned()}, {turned(), 0, turned()}, {nil, 5, nil}, {steps(7), 999999999, steps(7)},
		{nested, 2, nested}, {nested, 3, reversals(0, 0, 1, 8, 2, 2, 5, 7, 6, 1, 7, 9)}, {nested, 5, reversals(0, 0, 1, 8, 2, 2, 5, 7, 6, 1, 7, 9)}, {nested, 6, reversals(0, 0, 1, 8, 6, 1, 7, 9)}, {nested, 7, reversals(0, 0, 1, 8, 6, 1, 7, 9)}, {nested, 8, reversals(0, 0, 7, 9)},
		{steps(0, 4, 0, 9, 3, 8, -1), 5, reversals(0, 0, 3, 9, 4, 3, 5, 8, 6, -1)}, {steps(0, 9, 3, 8, 0, 4, -1), 5, reversals(0, 0, 1, 9, 2, 3, 3, 8, 6, -1)},
	} {
		check(t, "Filter", results(load.Filter(row.l, row.least)), row.want, api.OK)
	}
	for _, least := range []int{1000000000, -1000000000, math.MinInt, math.MaxInt} {
		check(t, "Filter", results(load.Filter(turned(), least)), noReversals, api.ErrRange)
	}
}

func TestP72Joined(t *testing.T) {
	for _, row := range []struct {
		a, b  []load.Reversal
		shift int
		want  []load.Reversal
	}{
		{residue(), residue(), 8, reversals(0, 0, 1, 5, 5, -1, 7, 6, 8, 0, 9, 5, 13, -1, 15, 6)}, {nil, nil, 40000, nil}, {nil, turned(), 0, turned()}, {turned(), nil, 40000, turned()}, {nil, steps(3, 1), 39998, reversals(39998, 3, 39999, 1)},
		{steps(0, 5), steps(5, 0), 2, reversals(0, 0, 1, 5, 3, 0)}, {steps(0, 5), steps(5, 9), 2, reversals(0, 0, 3, 9)}, {steps(0, 5), steps(7, 3), 2, reversals(0, 0, 2, 7, 3, 3)}, {steps(0, 5), steps(3, 7), 2, reversals(0, 0, 1, 5, 2, 3, 3, 7)}, {steps(0, 5), steps(3, 1), 2, reversals(0, 0, 1, 5, 3, 1)}, {steps(0, 5), steps(7, 9), 2, reversals(0, 0, 3, 9)}, {steps(5), steps(5), 1, steps(5)}, {steps(5), steps(5), 39999, steps(5)}, {steps(5), steps(5, 2), 5, reversals(0, 5, 6, 2)}, {steps(5), steps(6), 39999, reversals(0, 5, 39999, 6)}, {steps(0, 5), steps(5), 9, steps(0, 5)}, {reversals(0, 3), reversals(1, 4), 0, steps(3, 4)}, {steps(0, 5), steps(5, 5)[:1], 2, steps(0, 5)}, {steps(5, 0), steps(0, -3), 2, reversals(0, 5, 3, -3)},
	} {
		check(t, "Joined", results(load.Joined(row.a, row.b, row.shift)), row.want, api.OK)
	}
	for _, row := range []struct {
		a, b  []load.Reversal
		shift int
		e     api.Errno
	}{
		{turned(), turned(), -1, api.ErrRange}, {turned(), turned(), 40001, api.ErrRange}, {nil, nil, 40001, api.ErrRange}, {nil, nil, math.MinInt, api.ErrRange}, {turned(), nil, math.MaxInt, api.ErrRange}, {nil, steps(0), 40000, api.ErrRange}, {nil, steps(0, 1), 39999, api.ErrRange}, {reversals(39999, 0), reversals(0, 1, 39999, 0), 1, api.ErrRange}, {reversals(39999, 0), reversals(0, 1, 39998, 0), 1, api.ErrOrder}, {steps(0, 5), steps(5), 1, api.ErrOrder}, {steps(0, 5), steps(5), 0, api.ErrOrder}, {steps(0, 5), reversals(1, 7), 0, api.ErrOrder}, {steps(0, 5), reversals(0, 7, 9, 0), 1, api.ErrOrder}, {reversals(30000, 1), reversals(20000, 3), 20000, api.ErrRange},
	} {
		check(t, "Joined", results(load.Joined(row.a, row.b, row.shift)), noReversals, row.e)
	}
}

func TestP72Closed(t *testing.T) {
	for _, row := range []struct {
		l    []load.Reversal
		want []load.Cycle
	}{
		{residue(), cycles(8, 9, 0, 5, 7, 13, -1, 6)}, {turned(), cycles(3, 4, 2, 4, 11, 12, 2, 4, 8, 9, 0, 5, 7, 13, -1, 6)}, {nil, nil}, {steps(3), nil}, {reversals(39998, 3), nil}, {steps(0, 5), cycles(1, 2, 0, 5)}, {steps(0, 5, -1), cycles(2, 4, -1, 5)}, {reversals(100, 0, 109, 5), cycles(109, 110, 0, 5)}, {reversals(0, 0, 19999, 5), cycles(19999, 20000, 0, 5)}, {reversals(20000, 0, 29999, 5), cycles(29999, 30000, 0, 5)}, {steps(0, 5, 0), cycles(1, 2, 0, 5)},
	} {
		check(t, "Closed", results(load.Closed(row.l)), row.want, api.OK)
	}
	for _, l := range [][]load.Reversal{reversals(39999, 3), reversals(0, 0, 20000, 5), reversals(19999, 0, 29999, 5), reversals(20001, 0, 30000, 5), reversals(0, 0, 39999, 5), steps(zigzag(20001, 0, 1)...)} {
		check(t, "Closed", results(load.Closed(l)), noCycles, api.ErrRange)
	}
}

func TestP72Errors(t *testing.T) {
	for _, row := range wrongReversals {
		check(t, "Count", results(load.Count(row.l)), noCycles, noReversals, row.e)
		check(t, "CheckCount", results(load.CheckCount(row.l, cycles(1, 1, 1, 1), nil)), row.e)
		check(t, "Filter", results(load.Filter(row.l, math.MaxInt)), noReversals, row.e)
		check(t, "Joined", results(load.Joined(row.l, make([]load.Reversal, 40001), -1)), noReversals, row.e)
		check(t, "Joined", results(load.Joined(turned(), row.l, -1)), noReversals, row.e)
		check(t, "Closed", results(load.Closed(row.l)), noCycles, row.e)
	}
}

// TestP72Otherwise compares with what the definitions say.
func TestP72Otherwise(t *testing.T) {
	r := rand.New(rand.NewSource(3))
	for range 3000 {
		l, other := randomReversals(r, 20), randomReversals(r, 12)
		taken, left := slowCount(l)
		check(t, "Count", results(load.Count(l)), taken, left, api.OK)
		least := r.Intn(12) - 1
		kept := slices.DeleteFunc(slices.Clone(l), func(x load.Reversal) bool {
			return slices.ContainsFunc(taken, func(c load.Cycle) bool { return (c.From == x.At || c.To == x.At) && c.High-c.Low < least })
		})
		check(t, "Filter", results(load.Filter(l, least)), kept, api.OK)
		shift := r.Intn(60)
		points := slices.Clone(l)
		for _, p := range other {
			points = append(points, load.Reversal{At: p.At + shift, Load: p.Load})
		}
		if len(l) > 0 && len(other) > 0 && l[len(l)-1].At >= other[0].At+shift {
			check(t, "Joined", results(load.Joined(l, other, shift)), noReversals, api.ErrOrder)
		} else {
			check(t, "Joined", results(load.Joined(l, other, shift)), slowReversals(points), api.OK)
		}
		if len(l) > 0 {
			length := l[len(l)-1].At - l[0].At + 1
			for _, p := range slices.Clone(l) {
				l = append(l, load.Reversal{At: p.At + length, Load: p.Load})
			}
			taken, _ = slowCount(slowReversals(l))
			check(t, "Closed", results(load.Closed(l[:len(l)/2])), taken, api.OK)
		}
	}
}
