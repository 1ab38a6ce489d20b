package market_test

import (
	"math/rand"
	"slices"
	"testing"

	"nacelle/api"
	"nacelle/market"
)

// wrongBids are bids with errors.
var wrongBids = []struct {
	l []market.Bid
	e api.Errno
}{
	{manyBids(65, 1), api.ErrMany}, {make([]market.Bid, 65), api.ErrMany}, {make([]market.Bid, 64), api.ErrName},
	{[]market.Bid{bid("", 1, 1)}, api.ErrName}, {[]market.Bid{bid("1a", 1, 1)}, api.ErrName}, {[]market.Bid{bid("a b", 0, -1)}, api.ErrName}, {[]market.Bid{bid("aaaaaaaaaaaaaaaaaaaaaaaaa", 1, 1)}, api.ErrName}, {append(bids(), bid("a-b", 1, 1), bid("a", 1, 1)), api.ErrName}, {[]market.Bid{bid("\u00e4", 1, 1)}, api.ErrName},
	{[]market.Bid{bid("a", 0, 1)}, api.ErrRange}, {[]market.Bid{bid("a", -1, 1)}, api.ErrRange}, {[]market.Bid{bid("a", 100001, 1)}, api.ErrRange}, {[]market.Bid{bid("a", 1, -1)}, api.ErrRange}, {[]market.Bid{bid("a", 1, 10001)}, api.ErrRange}, {append(bids(), bid("a", 0, 1)), api.ErrRange}, {append(bids(), bid("a", 1, 10001)), api.ErrRange}, {append(bids(), bid("d", -9, -9), bid("", 1, 1)), api.ErrRange},
	{append(bids(), bid("a", 10, 20)), api.ErrTwice}, {append(bids(), bid("c", 1, 1)), api.ErrTwice}, {append(bids(), bid("b", 1, 1), bid("", 0, 0)), api.ErrTwice},
}

func TestP84CheckBids(t *testing.T) {
	for _, l := range [][]market.Bid{nil, bids(), manyBids(64, 0), {bid("a", 1, 0), bid("A", 100000, 10000), bid("a_1", 1, 0), bid("aaaaaaaaaaaaaaaaaaaaaaaa", 1, 1)}} {
		check(t, "CheckBids", results(market.CheckBids(l)), api.OK)
	}
	for _, row := range wrongBids {
		check(t, "CheckBids", results(market.CheckBids(row.l)), row.e)
		check(t, "Clear", results(market.Clear(row.l, -1)), noNumbers, 0, row.e)
	}
}

func TestP84Clear(t *testing.T) {
	mixed := []market.Bid{bid("a", 3, 9), bid("b", 4, 0), bid("c", 7, 9), bid("d", 2, 4), bid("e", 1, 9)}
	for _, row := range []struct {
		l        []market.Bid
		demand   int
		want     []int
		clearing int
	}{
		{bids(), 13, numbers(10, 2, 1), 30}, {bids(), 20, numbers(10, 5, 5), 30}, {bids(), 10, numbers(10, 0, 0), 20}, {bids(), 11, numbers(10, 1, 0), 30}, {bids(), 9, numbers(9, 0, 0), 20}, {bids(), 1, numbers(1, 0, 0), 20}, {bids(), 0, numbers(0, 0, 0), 0}, {nil, 0, nil, 0},
		{mixed, 0, numbers(0, 0, 0, 0, 0), 0}, {mixed, 3, numbers(0, 3, 0, 0, 0), 0}, {mixed, 4, numbers(0, 4, 0, 0, 0), 0}, {mixed, 5, numbers(0, 4, 0, 1, 0), 4}, {mixed, 6, numbers(0, 4, 0, 2, 0), 4}, {mixed, 7, numbers(0, 4, 1, 2, 0), 9}, {mixed, 8, numbers(1, 4, 1, 2, 0), 9}, {mixed, 12, numbers(2, 4, 4, 2, 0), 9}, {mixed, 17, numbers(3, 4, 7, 2, 1), 9},
		{manyBids(64, 10000), 6400000, slices.Repeat(numbers(100000), 64), 10000}, {manyBids(64, 10000), 64, slices.Repeat(numbers(1), 64), 10000}, {manyBids(64, 0), 65, append(numbers(2), slices.Repeat(numbers(1), 63)...), 0},
	} {
		check(t, "Clear", results(market.Clear(row.l, row.demand)), row.want, row.clearing, api.OK)
	}
}

func TestP84ClearErrors(t *testing.T) {
	for _, demand := range append(outside, 6400001) {
		check(t, "Clear", results(market.Clear(bids(), demand)), noNumbers, 0, api.ErrRange)
		check(t, "Clear of nothing", results(market.Clear(nil, demand)), noNumbers, 0, api.ErrRange)
	}
	for _, demand := range numbers(21, 6400000) {
		check(t, "Clear", results(market.Clear(bids(), demand)), noNumbers, 0, api.ErrInfeasible)
	}
	check(t, "Clear of nothing", results(market.Clear(nil, 1)), noNumbers, 0, api.ErrInfeasible)
	check(t, "Clear of many", results(market.Clear(manyBids(63, 5), 6300001)), noNumbers, 0, api.ErrInfeasible)
}

// TestP84Otherwise compares with what is left by cheaper bids, for each bid.
func TestP84Otherwise(t *testing.T) {
	r := rand.New(rand.NewSource(4))
	for range 2000 {
		l := randomBids(r, 12, []int{3, 20, 100000}[r.Intn(3)])
		demand := number(r, 0, quantities(l))
		want, clearing := slowClear(l, demand)
		check(t, "Clear", results(market.Clear(l, demand)), want, clearing, api.OK)
	}
}
