package load_test

import (
	"math"
	"math/rand"
	"testing"

	"nacelle/api"
	"nacelle/load"
)

func TestP73CheckCycles(t *testing.T) {
	for _, l := range [][]load.Cycle{nil, cycles(3, 4, 2, 4), cycles(0, 39999, -32768, 32768), cycles(39998, 39999, 32767, 32768, 0, 1, -32768, -32767, 0, 1, -32768, -32767), greatest(40000)} {
		check(t, "CheckCycles", results(load.CheckCycles(l)), api.OK)
	}
	for _, row := range wrongCycles {
		check(t, "CheckCycles", results(load.CheckCycles(row.l)), row.e)
		check(t, "Classes", results(load.Classes(row.l, 0)), noClasses, row.e)
	}
}

func TestP73Classes(t *testing.T) {
	some := cycles(5, 6, 0, 4, 1, 2, 0, 3, 3, 4, -3, 4, 7, 8, -2, 1, 2, 9, 10, 11)
	for _, row := range []struct {
		l     []load.Cycle
		width int
		want  []load.Class
	}{
		{nil, 1, nil}, {cycles(3, 4, 2, 4), 1, []load.Class{{Number: 2, Count: 1}}}, {some, 1, []load.Class{{Number: 1, Count: 1}, {Number: 3, Count: 2}, {Number: 4, Count: 1}, {Number: 7, Count: 1}}}, {some, 2, []load.Class{{Number: 0, Count: 1}, {Number: 1, Count: 2}, {Number: 2, Count: 1}, {Number: 3, Count: 1}}}, {some, 4, []load.Class{{Number: 0, Count: 3}, {Number: 1, Count: 2}}}, {some, 7, []load.Class{{Number: 0, Count: 4}, {Number: 1, Count: 1}}}, {some, 8, []load.Class{{Number: 0, Count: 5}}}, {some, 999999999, []load.Class{{Number: 0, Count: 5}}},
		{greatest(40000), 1, []load.Class{{Number: 65536, Count: 40000}}}, {greatest(1), 65537, []load.Class{{Number: 0, Count: 1}}},
	} {
		check(t, "Classes", results(load.Classes(row.l, row.width)), row.want, api.OK)
	}
	for _, width := range []int{0, -1, 1000000000, math.MinInt, math.MaxInt} {
		check(t, "Classes", results(load.Classes(some, width)), noClasses, api.ErrRange)
	}
}

func TestP73Greatest(t *testing.T) {
	for _, row := range []struct {
		l    []load.Reversal
		want int
	}{{turned(), 7}, {residue(), 7}, {steps(3, 1), 2}, {steps(1, 3), 2}, {steps(2, 3, -9, 0), 12}, {steps(0, 5, 1, 9), 9}, {reversals(7, -32768, 39999, 32768), 65536}, {steps(9, 2, 8, 3), 7}} {
		check(t, "Greatest", results(load.Greatest(row.l)), row.want, api.OK)
	}
	check(t, "Greatest of one", results(load.Greatest(steps(5))), 0, api.ErrNone)
	check(t, "Greatest of none", results(load.Greatest(nil)), 0, api.ErrNone)
}

func TestP73Crossings(t *testing.T) {
	for _, row := range []struct {
		l           []load.Reversal
		level, want int
	}{{turned(), 3, 3}, {turned(), 2, 3}, {turned(), 4, 2}, {turned(), 5, 1}, {turned(), 6, 0}, {turned(), 0, 2}, {turned(), -1, 1}, {turned(), -2, 0}, {turned(), 999999999, 0}, {turned(), -999999999, 0}, {nil, 0, 0}, {steps(5), 4, 0}, {steps(5, 1), 3, 0}, {steps(1, 5), 1, 1}, {steps(1, 5), 5, 0}, {steps(1, 5), 4, 1}, {steps(-32768, 32768), 32767, 1}, {steps(zigzag(40000, 0, 1)...), 0, 20000}} {
		check(t, "Crossings", results(load.Crossings(row.l, row.level)), row.want, api.OK)
	}
	for _, level := range []int{1000000000, -1000000000, math.MinInt, math.MaxInt} {
		check(t, "Crossings", results(load.Crossings(turned(), level)), 0, api.ErrRange)
	}
}

func TestP73Errors(t *testing.T) {
	for _, row := range wrongReversals {
		check(t, "Greatest", results(load.Greatest(row.l)), 0, row.e)
		check(t, "Crossings", results(load.Crossings(row.l, math.MaxInt)), 0, row.e)
	}
}

// TestP73Otherwise compares with classes, differences and crossings that are looked for one by one.
func TestP73Otherwise(t *testing.T) {
	r := rand.New(rand.NewSource(4))
	for range 1000 {
		l := randomReversals(r, 30)
		taken, _ := slowCount(l)
		width := 1 + r.Intn(12)
		counts := map[int]int{}
		most := 0
		for _, size := range ranges(taken) {
			for number := 0; ; number++ {
				if number*width <= size && size < (number+1)*width {
					counts[number]++
					most = max(most, number)
					break
				}
			}
		}
		var want []load.Class
		for number := range most + 1 {
			if counts[number] > 0 {
				want = append(want, load.Class{Number: number, Count: counts[number]})
			}
		}
		check(t, "Classes", results(load.Classes(taken, width)), want, api.OK)
		level, rises, greatest := r.Intn(9)-4, 0, 0
		for i, a := range l {
			if i > 0 && l[i-1].Load <= level && a.Load > level {
				rises++
			}
			for _, b := range l {
				greatest = max(greatest, a.Load-b.Load)
			}
		}
		check(t, "Crossings", results(load.Crossings(l, level)), rises, api.OK)
		if len(l) > 1 {
			check(t, "Greatest", results(load.Greatest(l)), greatest, api.OK)
		}
	}
}
