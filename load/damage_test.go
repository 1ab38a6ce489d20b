package load_test

import (
	"math"
	"math/big"
	"math/rand"
	"slices"
	"testing"

	"nacelle/api"
	"nacelle/load"
)

// wrongExponents are exponents with ErrRange.
var wrongExponents = []int{0, 4, -1, math.MinInt, math.MaxInt}

func TestP74Damage(t *testing.T) {
	for _, row := range []struct {
		l              []load.Cycle
		exponent, want int
	}{
		{cycles(3, 4, 2, 4), 1, 2}, {cycles(3, 4, 2, 4), 2, 4}, {cycles(3, 4, 2, 4), 3, 8}, {nil, 3, 0}, {cycles(0, 1, -3, 0, 0, 1, 4, 9), 2, 34}, {cycles(0, 1, -3, 0, 0, 1, 4, 9), 1, 8}, {cycles(0, 1, -3, 0, 0, 1, 4, 9), 3, 152}, {greatest(40000), 2, 40000 << 32}, {greatest(40000), 1, 40000 << 16}, {greatest(4096), 3, 1 << 60}, {greatest(1), 3, 1 << 48},
	} {
		check(t, "Damage", results(load.Damage(row.l, row.exponent)), row.want, api.OK)
	}
	least := cycles(0, 1, 0, 1)
	for _, l := range [][]load.Cycle{greatest(4097), greatest(32768), greatest(40000), slices.Concat(greatest(4096), least), slices.Concat(least, greatest(4096))} {
		check(t, "Damage", results(load.Damage(l, 3)), 0, api.ErrLarge)
	}
}

func TestP74Half(t *testing.T) {
	for _, row := range []struct {
		l              []load.Reversal
		exponent, want int
	}{{residue(), 2, 110}, {residue(), 1, 18}, {residue(), 3, 684}, {turned(), 1, 5 + 3 + 2 + 5 + 7}, {nil, 1, 0}, {steps(5), 3, 0}, {steps(5, 1), 3, 64}, {steps(zigzag(40000, -32768, 32768)...), 2, 39999 << 32}, {steps(zigzag(4097, -32768, 32768)...), 3, 1 << 60}} {
		check(t, "Half", results(load.Half(row.l, row.exponent)), row.want, api.OK)
	}
	for _, l := range [][]int{zigzag(4098, -32768, 32768), zigzag(32769, -32768, 32768), zigzag(40000, 32768, -32768), append(zigzag(4097, -32768, 32768), -32767)} {
		check(t, "Half", results(load.Half(steps(l...), 3)), 0, api.ErrLarge)
	}
}

func TestP74Twice(t *testing.T) {
	for _, row := range []struct {
		l              []int
		exponent, want int
	}{{example(), 2, 118}, {example(), 1, 22}, {example(), 3, 700}, {nil, 1, 0}, {[]int{5, 5}, 3, 0}, {[]int{5, 4}, 3, 1}, {[]int{0, 3, 3, 5}, 2, 25}, {[]int{0, 2, 0, 2}, 1, 6}, {zigzag(40000, -32768, 32768), 2, 39999 << 32}, {zigzag(4097, -32768, 32768), 3, 1 << 60}} {
		check(t, "Twice", results(load.Twice(row.l, row.exponent)), row.want, api.OK)
	}
	for _, l := range [][]int{zigzag(4098, -32768, 32768), zigzag(40000, 32768, -32768), append(zigzag(4097, -32768, 32768), -32767)} {
		check(t, "Twice", results(load.Twice(l, 3)), 0, api.ErrLarge)
	}
}

func TestP74Equivalent(t *testing.T) {
	example := cycles(3, 4, 2, 4)
	for _, row := range []struct {
		l                      []load.Cycle
		exponent, number, want int
	}{
		{example, 2, 1, 2}, {example, 2, 2, 1}, {example, 2, 4, 1}, {example, 2, 5, 0}, {example, 1, 1, 2}, {example, 1, 2, 1}, {example, 1, 3, 0}, {example, 3, 1, 2}, {example, 3, 8, 1}, {example, 3, 9, 0}, {example, 1, 999999999, 0}, {nil, 1, 1, 0}, {nil, 3, 999999999, 0}, {cycles(0, 1, 0, 3, 0, 1, 0, 5), 2, 1, 5}, {cycles(0, 1, 0, 3, 0, 1, 0, 5), 2, 2, 4}, {cycles(0, 1, 0, 3, 0, 1, 0, 5), 1, 3, 2},
		{greatest(4096), 3, 1, 1 << 20}, {greatest(4096), 3, 4096, 1 << 16}, {greatest(4096), 3, 4097, 1<<16 - 6}, {greatest(40000), 2, 1, 65536 * 200}, {greatest(40000), 1, 1, 40000 << 16}, {greatest(4096), 3, 999999999, 1048},
	} {
		check(t, "Equivalent", results(load.Equivalent(row.l, row.exponent, row.number)), row.want, api.OK)
	}
	check(t, "Equivalent", results(load.Equivalent(greatest(4097), 3, 999999999)), 0, api.ErrLarge)
	for _, number := range []int{0, -1, 1000000000, math.MinInt, math.MaxInt} {
		check(t, "Equivalent", results(load.Equivalent(example, 1, number)), 0, api.ErrRange)
		check(t, "Equivalent", results(load.Equivalent(greatest(4097), 3, number)), 0, api.ErrRange)
	}
}

func TestP74Errors(t *testing.T) {
	for _, row := range wrongCycles {
		check(t, "Damage", results(load.Damage(row.l, 0)), 0, row.e)
		check(t, "Equivalent", results(load.Equivalent(row.l, 0, 0)), 0, row.e)
	}
	for _, row := range wrongReversals {
		check(t, "Half", results(load.Half(row.l, 0)), 0, row.e)
	}
	for _, row := range wrongLoads {
		check(t, "Twice", results(load.Twice(row.l, 0)), 0, row.e)
	}
	for _, exponent := range wrongExponents {
		check(t, "Damage", results(load.Damage(cycles(3, 4, 2, 4), exponent)), 0, api.ErrRange)
		check(t, "Half", results(load.Half(residue(), exponent)), 0, api.ErrRange)
		check(t, "Twice", results(load.Twice(example(), exponent)), 0, api.ErrRange)
		check(t, "Equivalent", results(load.Equivalent(cycles(3, 4, 2, 4), exponent, 1)), 0, api.ErrRange)
	}
}

// TestP74Otherwise compares with sums and powers of any size.
func TestP74Otherwise(t *testing.T) {
	r := rand.New(rand.NewSource(5))
	for range 1000 {
		loads, exponent := randomLoads(r, 20), 1+r.Intn(3)
		l := slowReversals(steps(loads...))
		taken, _ := slowCount(l)
		repeated := slices.Repeat(taken, []int{1, 1000}[r.Intn(2)])
		damage, e := bounded(slowTotal(ranges(repeated), int64(exponent), 1))
		check(t, "Damage", results(load.Damage(repeated, exponent)), damage, e)
		half, _ := bounded(slowTotal(changes(l), int64(exponent), 1))
		check(t, "Half", results(load.Half(l, exponent)), half, api.OK)
		twice, _ := bounded(slowTwice(loads, exponent))
		check(t, "Twice", results(load.Twice(loads, exponent)), twice, api.OK)
		number := []int{1 + r.Intn(9), 1 + r.Intn(999999999)}[r.Intn(2)]
		equivalent, got := load.Equivalent(repeated, exponent, number)
		check(t, "Equivalent", results(got), e)
		if e == api.OK {
			here, next := slowTotal([]int{equivalent}, int64(exponent), int64(number)), slowTotal([]int{equivalent + 1}, int64(exponent), int64(number))
			limit := big.NewInt(int64(damage))
			check(t, "the damage of the equivalent range, and of a greater one", results(here.Cmp(limit) <= 0, next.Cmp(limit) > 0), true, true)
		}
	}
}

func TestP75Repeats(t *testing.T) {
	full := load.Life{Capacity: load.MaxDamage, Exponent: 3}
	for _, row := range []struct {
		life load.Life
		l    []int
		want int
	}{
		{load.Life{Capacity: 40, Exponent: 1}, example(), 3}, {load.Life{Capacity: 11, Exponent: 1}, example(), 1}, {load.Life{Capacity: 10, Exponent: 1}, example(), 0}, {load.Life{Capacity: 59, Exponent: 2}, example(), 1}, {load.Life{Capacity: 58, Exponent: 2}, example(), 0}, {load.Life{Capacity: 350, Exponent: 3}, example(), 1}, {load.Life{Capacity: 1, Exponent: 1}, []int{0, 1}, 2}, {load.Life{Capacity: 3, Exponent: 1}, []int{0, 4}, 1}, {full, []int{0, 1}, 1 << 61}, {full, zigzag(4097, -32768, 32768), 2},
	} {
		check(t, "Repeats", results(load.Repeats(row.life, row.l)), row.want, api.OK)
	}
	for _, l := range [][]int{nil, {7}, {7, 7, 7}} {
		check(t, "Repeats", results(load.Repeats(full, l)), 0, api.ErrNone)
	}
	check(t, "Repeats", results(load.Repeats(full, zigzag(4098, -32768, 32768))), 0, api.ErrLarge)
}

func TestP75Spend(t *testing.T) {
	forty := load.Life{Capacity: 40, Exponent: 1}
	full := load.Life{Capacity: load.MaxDamage, Exponent: 3}
	heavy, flat := zigzag(4097, -32768, 32768), []int{3, 3}
	for _, row := range []struct {
		life        load.Life
		records     [][]int
		borne, left int
	}{
		{forty, nil, 0, 80}, {forty, [][]int{example()}, 1, 58}, {forty, slices.Repeat([][]int{example()}, 256), 3, 14}, {forty, [][]int{example(), {0, 58}}, 2, 0}, {forty, [][]int{example(), {0, 59}}, 1, 58}, {forty, [][]int{{0, 81}, {0, 1}}, 0, 80}, {forty, [][]int{{0, 80}, flat, nil, {7}}, 4, 0}, {forty, [][]int{{0, 80}, {0, 1}, flat}, 1, 0}, {forty, [][]int{nil, flat, {0, 79}, {0, 2}, {0, 1}}, 3, 1}, {load.Life{Capacity: 60, Exponent: 2}, [][]int{example(), example()}, 1, 2}, {load.Life{Capacity: 1, Exponent: 3}, [][]int{{0, 1}, {1, 0}, {0, 1}}, 2, 0},
		{full, slices.Repeat([][]int{heavy}, 3), 2, 0}, {full, [][]int{heavy, {0, 1}}, 2, 1<<60 - 1},
	} {
		check(t, "Spend", results(load.Spend(row.life, row.records)), row.borne, row.left, api.OK)
	}
	large := zigzag(4098, -32768, 32768)
	for _, row := range []struct {
		life    load.Life
		records [][]int
		e       api.Errno
	}{
		{full, make([][]int, 257), api.ErrMany}, {full, slices.Repeat([][]int{{32769}}, 257), api.ErrMany}, {full, [][]int{large}, api.ErrLarge}, {full, [][]int{nil, large}, api.ErrLarge}, {load.Life{Capacity: 1, Exponent: 3}, [][]int{{0, 9}, large}, api.ErrLarge}, {full, [][]int{large, {32769}}, api.ErrRange}, {full, [][]int{nil, {0, 32769}, make([]int, 40001)}, api.ErrRange}, {full, [][]int{nil, make([]int, 40001), {32769}}, api.ErrMany},
	} {
		check(t, "Spend", results(load.Spend(row.life, row.records)), 0, 0, row.e)
	}
}

func TestP75Errors(t *testing.T) {
	for _, life := range wrongLives {
		check(t, "Repeats", results(load.Repeats(life, make([]int, 40001))), 0, api.ErrRange)
		check(t, "Spend", results(load.Spend(life, make([][]int, 257))), 0, 0, api.ErrRange)
	}
	for _, row := range wrongLoads {
		check(t, "Repeats", results(load.Repeats(load.Life{Capacity: 1, Exponent: 1}, row.l)), 0, row.e)
		check(t, "Spend", results(load.Spend(load.Life{Capacity: 1, Exponent: 1}, [][]int{example(), row.l})), 0, 0, row.e)
	}
}

// TestP75Otherwise compares with lives that are spent record by record.
func TestP75Otherwise(t *testing.T) {
	r := rand.New(rand.NewSource(6))
	for range 1000 {
		life := load.Life{Capacity: 1 + r.Intn(1<<[]int{4, 20, 60}[r.Intn(3)]), Exponent: 1 + r.Intn(3)}
		var records [][]int
		for range r.Intn(6) {
			records = append(records, randomLoads(r, 12))
		}
		borne, left, isOver := 0, 2*life.Capacity, false
		for _, l := range records {
			damage := int(slowTwice(l, life.Exponent).Int64())
			want, e := 0, api.ErrNone
			if damage > 0 {
				want, e = 2*life.Capacity/damage, api.OK
			}
			check(t, "Repeats", results(load.Repeats(life, l)), want, e)
			isOver = isOver || damage > left
			if !isOver {
				borne++
				left -= damage
			}
		}
		check(t, "Spend", results(load.Spend(life, records)), borne, left, api.OK)
	}
}
