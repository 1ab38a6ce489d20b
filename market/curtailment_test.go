package market_test

import (
	"math/rand"
	"slices"
	"testing"

	"nacelle/api"
	"nacelle/market"
)

func TestP82Curtail(t *testing.T) {
	full := slices.Repeat(numbers(100000), 64)
	almost := slices.Clone(full)
	almost[63] = 99999
	for _, row := range []struct {
		available []int
		limit     int
		want      []int
	}{
		{numbers(10, 10, 5), 12, numbers(5, 5, 2)}, {nil, 0, nil}, {nil, 6400000, nil}, {numbers(0, 0), 0, numbers(0, 0)}, {numbers(3, 4), 7, numbers(3, 4)}, {numbers(3, 4), 8, numbers(3, 4)}, {numbers(3, 4), 6, numbers(3, 3)}, {numbers(4, 3), 6, numbers(3, 3)}, {numbers(3, 4), 1, numbers(0, 1)}, {numbers(3, 4), 0, numbers(0, 0)},
		{numbers(1, 1, 1), 2, numbers(1, 1, 0)}, {numbers(1, 1, 1), 1, numbers(1, 0, 0)}, {numbers(1, 0, 1), 1, numbers(1, 0, 0)}, {numbers(0, 1, 1), 1, numbers(0, 1, 0)}, {numbers(7, 7, 7, 1), 11, numbers(4, 4, 3, 0)}, {numbers(1, 7, 7, 7), 11, numbers(1, 4, 3, 3)}, {numbers(2, 1), 2, numbers(1, 1)}, {numbers(100000), 99999, numbers(99999)}, {numbers(100000, 1), 100000, numbers(99999, 1)},
		{full, 6400000, full}, {full, 6399999, almost}, {full, 0, make([]int, 64)}, {full, 64, slices.Repeat(numbers(1), 64)}, {full, 65, append(numbers(2), slices.Repeat(numbers(1), 63)...)},
	} {
		check(t, "Curtail", results(market.Curtail(row.available, row.limit)), row.want, api.OK)
	}
}

func TestP82CurtailErrors(t *testing.T) {
	for _, l := range [][]int{make([]int, 65), slices.Repeat(numbers(-1), 65)} {
		check(t, "Curtail of many", results(market.Curtail(l, -1)), noNumbers, api.ErrMany)
	}
	for _, wrong := range append(outside, 100001) {
		check(t, "Curtail", results(market.Curtail(numbers(1, wrong, 2), 0)), noNumbers, api.ErrRange)
		check(t, "Curtail", results(market.Curtail(numbers(wrong), -1)), noNumbers, api.ErrRange)
	}
	for _, limit := range append(outside, 6400001) {
		check(t, "Curtail", results(market.Curtail(numbers(1, 2), limit)), noNumbers, api.ErrRange)
		check(t, "Curtail of nothing", results(market.Curtail(nil, limit)), noNumbers, api.ErrRange)
	}
}

// TestP82Otherwise compares with exact fractions, of which the greatest one is looked for again and again.
func TestP82Otherwise(t *testing.T) {
	r := rand.New(rand.NewSource(2))
	for range 2000 {
		available := randomNumbers(r, r.Intn([]int{4, 9, 65}[r.Intn(3)]), 0, []int{2, 9, 100000}[r.Intn(3)])
		limit := number(r, 0, total(available))
		check(t, "Curtail", results(market.Curtail(available, limit)), slowCurtail(available, limit), api.OK)
	}
}
