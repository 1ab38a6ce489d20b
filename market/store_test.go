package market_test

import (
	"math"
	"math/rand"
	"slices"
	"testing"

	"nacelle/api"
	"nacelle/market"
)

func TestP85CheckStore(t *testing.T) {
	for _, s := range []market.Store{small(), store(1, 1, 0, 0), store(1, 64, 1, 10000), store(64, 64, 64, 10000)} {
		check(t, "CheckStore", results(market.CheckStore(s)), api.OK)
	}
	for _, s := range wrongStores {
		check(t, "CheckStore", results(market.CheckStore(s)), api.ErrRange)
		check(t, "Profit", results(market.Profit(s, make([]int, 97), nil)), 0, api.ErrRange)
		check(t, "Schedule", results(market.Schedule(s, make([]int, 97))), noNumbers, 0, api.ErrRange)
	}
}

func TestP85Profit(t *testing.T) {
	for _, row := range []struct {
		s              market.Store
		prices, levels []int
		want           int
	}{
		{small(), numbers(10, 5, 20), numbers(0, 1, 0), 14}, {small(), numbers(10, 5, 20), numbers(0, 0, 0), 0}, {small(), numbers(10, 5, 20), numbers(1, 2, 1), 3}, {small(), numbers(10, 5, 20), numbers(1, 2, 2), -17}, {small(), nil, nil, 0}, {store(5, 5, 5, 7), numbers(3, 9, 0), numbers(0, 5, 0), -65}, {store(64, 64, 64, 0), numbers(10000), numbers(0), 640000}, {store(64, 64, 0, 10000), numbers(10000), numbers(64), -1280000}, {store(3, 1, 3, 2), numbers(4, 4, 4, 4), numbers(3, 2, 3, 3), -2},
	} {
		check(t, "Profit", results(market.Profit(row.s, row.prices, row.levels)), row.want, api.OK)
	}
}

// TestP85ProfitErrors: of the store, of the prices, and last of the levels.
func TestP85ProfitErrors(t *testing.T) {
	three := numbers(10, 5, 20)
	for _, row := range []struct {
		prices, levels []int
		e              api.Errno
	}{
		{make([]int, 97), nil, api.ErrMany}, {slices.Repeat(numbers(-1), 97), make([]int, 97), api.ErrMany}, {numbers(1, -1), numbers(9), api.ErrRange}, {numbers(10001), nil, api.ErrRange}, {numbers(1, math.MaxInt), nil, api.ErrRange}, {numbers(math.MinInt), nil, api.ErrRange},
		{three, nil, api.ErrShape}, {three, numbers(0, 1), api.ErrShape}, {three, numbers(0, 1, 0, 1), api.ErrShape}, {nil, numbers(0), api.ErrShape}, {three, numbers(9, 9), api.ErrShape}, {three, numbers(-1, 0, 0, 0), api.ErrShape},
		{three, numbers(-1, 0, 0), api.ErrRange}, {three, numbers(0, 1, 3), api.ErrRange}, {three, numbers(0, math.MaxInt, 0), api.ErrRange}, {three, numbers(math.MinInt, 2, 0), api.ErrRange}, {three, numbers(0, 3, 0), api.ErrRange}, {three, numbers(1, 3, 9), api.ErrRange},
		{three, numbers(2, 1, 0), api.ErrRule}, {three, numbers(0, 2, 1), api.ErrRule}, {three, numbers(1, 2, 0), api.ErrRule}, {three, numbers(2, 9, 9), api.ErrRule}, {three, numbers(2, 0, -1), api.ErrRule},
	} {
		check(t, "Profit", results(market.Profit(small(), row.prices, row.levels)), 0, row.e)
	}
	check(t, "Profit beyond the begin", results(market.Profit(store(9, 3, 5, 0), three, numbers(1, 1, 1))), 0, api.ErrRule)
}

func TestP85Schedule(t *testing.T) {
	for _, row := range []struct {
		s            market.Store
		prices, want []int
		profit       int
	}{
		{small(), numbers(10, 5, 20), numbers(0, 1, 0), 14}, {small(), nil, nil, 0}, {small(), numbers(0), numbers(0), 0}, {small(), numbers(5, 6), numbers(0, 0), 0}, {small(), numbers(5, 7), numbers(1, 0), 1}, {small(), numbers(1, 2, 9, 9), numbers(1, 2, 1, 0), 13}, {small(), numbers(9, 8, 7), numbers(0, 0, 0), 0},
		{store(2, 1, 0, 0), numbers(5, 5, 5), numbers(0, 0, 0), 0}, {store(2, 2, 2, 0), numbers(5, 5), numbers(0, 0), 10}, {store(2, 1, 2, 0), numbers(5, 5, 5), numbers(1, 0, 0), 10}, {store(2, 1, 2, 0), numbers(0, 0, 5), numbers(1, 1, 0), 5}, {store(2, 1, 2, 3), numbers(0, 0), numbers(1, 0), 0}, {store(4, 2, 3, 1), numbers(0, 0, 9, 9), numbers(3, 4, 2, 0), 35}, {store(64, 64, 64, 0), numbers(10000), numbers(0), 640000}, {store(3, 64, 1, 10000), numbers(0, 10000), numbers(1, 0), 10000},
		{store(64, 64, 0, 0), slices.Repeat(numbers(0, 10000), 48), slices.Repeat(numbers(64, 0), 48), 48 * 640000}, {store(64, 1, 0, 10000), slices.Repeat(numbers(0, 10000), 48), make([]int, 96), 0},
	} {
		check(t, "Schedule", results(market.Schedule(row.s, row.prices)), row.want, row.profit, api.OK)
	}
	for _, row := range []struct {
		prices []int
		e      api.Errno
	}{{make([]int, 97), api.ErrMany}, {slices.Repeat(numbers(-1), 97), api.ErrMany}, {numbers(1, -1), api.ErrRange}, {numbers(1, 10001, 2), api.ErrRange}, {numbers(math.MaxInt), api.ErrRange}, {numbers(0, math.MinInt), api.ErrRange}} {
		check(t, "Schedule", results(market.Schedule(small(), row.prices)), noNumbers, 0, row.e)
	}
}

// randomStore returns a store whose numbers are at most most.
func randomStore(r *rand.Rand, most int) market.Store {
	capacity := number(r, 1, most)
	return store(capacity, number(r, 1, most), number(r, 0, capacity), number(r, 0, []int{0, 2, 10000}[r.Intn(3)]))
}

// TestP85Otherwise compares with the best one of all schedules.
func TestP85Otherwise(t *testing.T) {
	r := rand.New(rand.NewSource(5))
	for range 500 {
		s := randomStore(r, 3)
		prices := randomNumbers(r, r.Intn(6), 0, []int{1, 5, 10000}[r.Intn(3)])
		want, profit := slowSchedule(s, prices)
		check(t, "Schedule", results(market.Schedule(s, prices)), want, profit, api.OK)
		levels := make([]int, len(prices))
		at := s.Begin
		for i := range levels {
			at = number(r, max(at-s.Power, 0), min(at+s.Power, s.Capacity))
			levels[i] = at
		}
		check(t, "Profit", results(market.Profit(s, prices, levels)), slowProfit(s, prices, levels), api.OK)
	}
}

// greatestProfits returns the greatest profit of schedules that end at each level, quarter by quarter from the first one on.
func greatestProfits(s market.Store, prices []int) []int {
	const never = math.MinInt / 2
	best := slices.Repeat(numbers(never), s.Capacity+1)
	best[s.Begin] = 0
	for _, price := range prices {
		next := slices.Repeat(numbers(never), s.Capacity+1)
		for from, profit := range best {
			for to := max(from-s.Power, 0); to <= min(from+s.Power, s.Capacity); to++ {
				next[to] = max(next[to], profit+price*(from-to)-s.Fee*max(to-from, 0))
			}
		}
		best = next
	}
	return best
}

// TestP85LongSchedules compares the profit with that of the best end, and each level with lesser ones, from which the rest earns less.
func TestP85LongSchedules(t *testing.T) {
	r := rand.New(rand.NewSource(6))
	for range 6 {
		s := randomStore(r, 64)
		prices := randomNumbers(r, 40, 0, []int{3, 50, 10000}[r.Intn(3)])
		levels, profit, e := market.Schedule(s, prices)
		check(t, "the profit of a schedule", results(market.Profit(s, prices, levels)), profit, e)
		check(t, "the greatest profit", results(profit), slices.Max(greatestProfits(s, prices)))
		at, earned := s.Begin, 0
		for q, level := range levels {
			for less := max(at-s.Power, 0); less < level; less++ {
				there := s
				there.Begin = less
				rest := slices.Max(greatestProfits(there, prices[q+1:]))
				check(t, "a lesser level earns less", results(earned+prices[q]*(at-less)-s.Fee*max(less-at, 0)+rest < profit), true)
			}
			earned += prices[q]*(at-level) - s.Fee*max(level-at, 0)
			at = level
		}
	}
}
