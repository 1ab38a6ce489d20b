package market_test

import (
	"fmt"
	"math"
	"math/big"
	"math/rand"
	"slices"
	"strconv"
	"strings"
	"testing"

	"nacelle/api"
	"nacelle/market"
)

// The zero values of lists, which stand beside errors.
var (
	noNumbers   []int
	noScenarios []market.Scenario
	noRows      []market.Row
	noQuarters  []market.Quarter
)

// outside are numbers that are in no range.
var outside = []int{math.MinInt, -1, 1000000000, math.MaxInt}

// results returns all results of a call.
func results(r ...any) []any { return r }

// check reports results that are not the expected ones. Lists without elements are the same.
func check(t *testing.T, what string, got []any, want ...any) {
	t.Helper()
	if g, w := fmt.Sprintln(got...), fmt.Sprintln(want...); g != w {
		t.Errorf("%s: got %.300s, want %.300s", what, g, w)
	}
}

// numbers returns a list of numbers.
func numbers(n ...int) []int { return n }

// scenario returns a scenario.
func scenario(weight int, energies ...int) market.Scenario {
	return market.Scenario{Weight: weight, Energies: energies}
}

// ensemble is E of the chapter's examples.
func ensemble() []market.Scenario {
	return []market.Scenario{scenario(1, 10), scenario(2, 20), scenario(1, 40)}
}

// two is an ensemble of two quarters.
func two() []market.Scenario {
	return []market.Scenario{scenario(3, 5, 0), scenario(1000, 100000, 7), scenario(3, 5, 100000)}
}

// largest is an ensemble of so many scenarios with so many quarters, with the greatest numbers.
func largest(scenarios, quarters int) []market.Scenario {
	var out []market.Scenario
	for range scenarios {
		out = append(out, scenario(1000, slices.Repeat(numbers(100000), quarters)...))
	}
	return out
}

// prices returns prices; usual ones are P of the chapter's examples, free ones are all 0.
func prices(over, spot, under int) market.Prices {
	return market.Prices{Over: over, Spot: spot, Under: under}
}

func usual() market.Prices { return prices(30, 50, 80) }

func free() market.Prices { return market.Prices{} }

// quarter returns a quarter with a consistent available energy.
func quarter(offered, curtailed, lost, metered int) market.Quarter {
	return market.Quarter{Offered: offered, Available: curtailed + lost + metered, Curtailed: curtailed, Lost: lost, Metered: metered}
}

// day are the quarters of the chapter's third example.
func day() []market.Quarter { return []market.Quarter{quarter(20, 5, 1, 19), quarter(20, 0, 0, 15)} }

// bid returns a bid.
func bid(name string, quantity, price int) market.Bid {
	return market.Bid{Name: name, Quantity: quantity, Price: price}
}

// bids are those of the chapter's fourth example.
func bids() []market.Bid { return []market.Bid{bid("a", 10, 20), bid("b", 5, 30), bid("c", 5, 30)} }

// manyBids returns so many bids with the greatest quantity, at one price.
func manyBids(count, price int) []market.Bid {
	var out []market.Bid
	for i := range count {
		out = append(out, bid("b"+strconv.Itoa(i), 100000, price))
	}
	return out
}

// store returns a store.
func store(capacity, power, begin, fee int) market.Store {
	return market.Store{Capacity: capacity, Power: power, Begin: begin, Fee: fee}
}

// small is the store of the chapter's fifth example.
func small() market.Store { return store(2, 1, 0, 1) }

// wrongEnsembles are ensembles with errors.
var wrongEnsembles = []struct {
	l []market.Scenario
	e api.Errno
}{
	{nil, api.ErrEmpty}, {largest(17, 1), api.ErrMany}, {make([]market.Scenario, 17), api.ErrMany},
	{[]market.Scenario{scenario(0, 1)}, api.ErrRange}, {[]market.Scenario{scenario(1001, 1)}, api.ErrRange}, {[]market.Scenario{scenario(-1, 1)}, api.ErrRange}, {[]market.Scenario{scenario(math.MinInt, 1)}, api.ErrRange}, {[]market.Scenario{scenario(math.MaxInt, 1)}, api.ErrRange},
	{[]market.Scenario{scenario(0)}, api.ErrRange}, {[]market.Scenario{scenario(1)}, api.ErrEmpty}, {[]market.Scenario{scenario(1, 1), scenario(1)}, api.ErrEmpty}, {[]market.Scenario{scenario(1), scenario(0)}, api.ErrEmpty}, {largest(1, 97), api.ErrMany}, {append(largest(1, 96), largest(1, 97)...), api.ErrMany}, {[]market.Scenario{scenario(1, make([]int, 97)...)}, api.ErrMany}, {[]market.Scenario{scenario(1001, make([]int, 97)...)}, api.ErrRange},
	{[]market.Scenario{scenario(1, 1, 2), scenario(1, 1)}, api.ErrShape}, {[]market.Scenario{scenario(1, 1), scenario(1, 1, 2)}, api.ErrShape}, {[]market.Scenario{scenario(1, 1), scenario(1, 1), scenario(1, -1, -1)}, api.ErrShape}, {[]market.Scenario{scenario(1, 1), scenario(0, 1, 2)}, api.ErrRange},
	{[]market.Scenario{scenario(1, -1)}, api.ErrRange}, {[]market.Scenario{scenario(1, 100001)}, api.ErrRange}, {[]market.Scenario{scenario(1, 0, math.MaxInt)}, api.ErrRange}, {[]market.Scenario{scenario(1, math.MinInt), scenario(1)}, api.ErrRange}, {[]market.Scenario{scenario(1, 1), scenario(1, -1)}, api.ErrRange},
}

// wrongPrices are prices with errors.
var wrongPrices = []struct {
	p market.Prices
	e api.Errno
}{
	{prices(-1, 0, 0), api.ErrRange}, {prices(0, -1, 0), api.ErrRange}, {prices(0, 0, -1), api.ErrRange}, {prices(10001, 10001, 10001), api.ErrRange}, {prices(0, 10001, 10001), api.ErrRange}, {prices(0, 0, 10001), api.ErrRange}, {prices(3, 2, 10001), api.ErrRange}, {prices(3, -1, 1), api.ErrRange}, {prices(math.MinInt, math.MaxInt, 0), api.ErrRange}, {prices(0, math.MinInt, math.MaxInt), api.ErrRange},
	{prices(1, 0, 1), api.ErrOrder}, {prices(1, 0, 0), api.ErrOrder}, {prices(0, 1, 0), api.ErrOrder}, {prices(2, 3, 1), api.ErrOrder}, {prices(3, 2, 1), api.ErrOrder}, {prices(10000, 0, 10000), api.ErrOrder}, {prices(2, 1, 3), api.ErrOrder}, {prices(1, 3, 2), api.ErrOrder},
}

// wrongQuarters are quarters with errors.
var wrongQuarters = []struct {
	q market.Quarter
	e api.Errno
}{
	{quarter(-1, 0, 0, 0), api.ErrRange}, {quarter(6400001, 0, 0, 0), api.ErrRange}, {quarter(0, -1, 0, 1), api.ErrRange}, {quarter(0, 0, -1, 1), api.ErrRange}, {quarter(0, 1, 0, -1), api.ErrRange}, {quarter(0, 6400001, 0, 0), api.ErrRange}, {quarter(0, 0, 6400001, 0), api.ErrRange}, {quarter(0, 0, 0, 6400001), api.ErrRange}, {quarter(0, 6400000, 1, 0), api.ErrRange}, {quarter(math.MaxInt, math.MaxInt, math.MaxInt, 2), api.ErrRange}, {quarter(math.MinInt, 0, math.MinInt, 0), api.ErrRange}, {market.Quarter{Available: -1}, api.ErrRange}, {market.Quarter{Available: 6400001}, api.ErrRange}, {market.Quarter{Offered: -1, Lost: 1}, api.ErrRange}, {market.Quarter{Curtailed: 1, Metered: 6400001}, api.ErrRange},
	{market.Quarter{Available: 1}, api.ErrConflict}, {market.Quarter{Curtailed: 1}, api.ErrConflict}, {market.Quarter{Lost: 1}, api.ErrConflict}, {market.Quarter{Metered: 1}, api.ErrConflict}, {market.Quarter{Offered: 20, Available: 24, Curtailed: 5, Lost: 1, Metered: 19}, api.ErrConflict}, {market.Quarter{Available: 6400000, Curtailed: 6400000, Lost: 6400000, Metered: 6400000}, api.ErrConflict}, {market.Quarter{Offered: 3, Available: 6, Metered: 3}, api.ErrConflict},
}

// wrongDays are lists of quarters with errors.
func wrongDays() map[api.Errno][]market.Quarter {
	bad := market.Quarter{Available: 1}
	return map[api.Errno][]market.Quarter{
		api.ErrMany:     slices.Repeat([]market.Quarter{bad}, 97),
		api.ErrRange:    append(day(), quarter(-1, 0, 0, 0), bad),
		api.ErrConflict: append(day(), bad, quarter(-1, 0, 0, 0)),
	}
}

// wrongStores are stores with errors: all these are ErrRange.
var wrongStores = []market.Store{{}, store(0, 1, 0, 0), store(65, 1, 0, 0), store(1, 0, 0, 0), store(1, 65, 0, 0), store(1, 1, -1, 0), store(1, 1, 2, 0), store(64, 1, 65, 0), store(1, 1, 0, -1), store(1, 1, 0, 10001), store(math.MinInt, math.MaxInt, math.MinInt, math.MaxInt), store(math.MaxInt, 1, math.MaxInt, 0)}

// number returns a random number, often one of the ends.
func number(r *rand.Rand, least, most int) int {
	switch r.Intn(6) {
	case 0:
		return least
	case 1:
		return most
	}
	return least + r.Intn(most-least+1)
}

// randomNumbers returns so many random numbers.
func randomNumbers(r *rand.Rand, count, least, most int) []int {
	out := make([]int, count)
	for i := range out {
		out[i] = number(r, least, most)
	}
	return out
}

// randomEnsemble returns an ensemble of so many quarters, whose energies are at most most.
func randomEnsemble(r *rand.Rand, quarters, most int) []market.Scenario {
	var out []market.Scenario
	for range number(r, 1, 16) {
		out = append(out, scenario(number(r, 1, []int{2, 5, 1000}[r.Intn(3)]), randomNumbers(r, quarters, 0, most)...))
	}
	return out
}

// randomPrices returns prices, often with equal ones.
func randomPrices(r *rand.Rand) market.Prices {
	l := randomNumbers(r, 3, 0, []int{1, 3, 10, 10000}[r.Intn(4)])
	slices.Sort(l)
	return prices(l[0], l[1], l[2])
}

// randomDay returns so many quarters, and prices for each.
func randomDay(r *rand.Rand, count int) ([]market.Quarter, []market.Prices) {
	var l []market.Quarter
	var p []market.Prices
	most := []int{3, 100, 2133333}[r.Intn(3)]
	for range count {
		n := randomNumbers(r, 4, 0, most)
		l = append(l, quarter(n[0], n[1], n[2], n[3]))
		p = append(p, randomPrices(r))
	}
	return l, p
}

// randomBids returns at most so many bids, many of them with equal prices.
func randomBids(r *rand.Rand, count, most int) []market.Bid {
	var out []market.Bid
	top := []int{0, 2, 5, 10000}[r.Intn(4)]
	for i := range r.Intn(count + 1) {
		out = append(out, bid("n"+strconv.Itoa(i), number(r, 1, most), number(r, 0, top)))
	}
	return out
}

// quantities returns the sum of the quantities of bids.
func quantities(l []market.Bid) int {
	sum := 0
	for _, b := range l {
		sum += b.Quantity
	}
	return sum
}

// total returns the sum of numbers.
func total(l []int) int {
	sum := 0
	for _, n := range l {
		sum += n
	}
	return sum
}

// slowRevenue returns the revenue of an offer, case by case.
func slowRevenue(p market.Prices, offer, energy int) int {
	switch {
	case energy > offer:
		return p.Spot*offer + p.Over*(energy-offer)
	case energy < offer:
		return p.Spot*offer - p.Under*(offer-energy)
	}
	return p.Spot * offer
}

// slowExpected returns the expected revenue of an offer: the sum of the revenues of single weights, by the number of these.
func slowExpected(l []market.Scenario, quarter int, p market.Prices, offer int) *big.Rat {
	sum, weights := 0, 0
	for _, s := range l {
		for range s.Weight {
			sum += slowRevenue(p, offer, s.Energies[quarter])
			weights++
		}
	}
	return big.NewRat(int64(sum), int64(weights))
}

// slowBest returns the least of those offers up to most that have the greatest expected revenue.
func slowBest(l []market.Scenario, quarter int, p market.Prices, most int) int {
	best, greatest := 0, slowExpected(l, quarter, p, 0)
	for offer := 1; offer <= most; offer++ {
		if revenue := slowExpected(l, quarter, p, offer); revenue.Cmp(greatest) > 0 {
			best, greatest = offer, revenue
		}
	}
	return best
}

// slowQuantile returns the least of the energies that has the share.
func slowQuantile(l []market.Scenario, quarter int, share api.Ratio) int {
	least := math.MaxInt
	for _, s := range l {
		reached, whole := 0, 0
		for _, other := range l {
			whole += other.Weight
			if other.Energies[quarter] <= s.Energies[quarter] {
				reached += other.Weight
			}
		}
		if big.NewRat(int64(reached), int64(whole)).Cmp(big.NewRat(int64(share.Num), int64(share.Den))) >= 0 {
			least = min(least, s.Energies[quarter])
		}
	}
	return least
}

// slowCurtail rounds exact shares down, and gives what is left to the greatest fractions, one after the other.
func slowCurtail(available []int, limit int) []int {
	if total(available) <= limit {
		return slices.Clone(available)
	}
	out := make([]int, len(available))
	fractions := make([]*big.Rat, len(available))
	left := limit
	for i, energy := range available {
		exact := new(big.Rat).Mul(big.NewRat(int64(energy), int64(total(available))), big.NewRat(int64(limit), 1))
		out[i] = int(new(big.Int).Quo(exact.Num(), exact.Denom()).Int64())
		fractions[i] = exact.Sub(exact, big.NewRat(int64(out[i]), 1))
		left -= out[i]
	}
	for ; left > 0; left-- {
		greatest := 0
		for i, f := range fractions {
			if f.Cmp(fractions[greatest]) > 0 {
				greatest = i
			}
		}
		out[greatest]++
		fractions[greatest] = big.NewRat(-1, 1)
	}
	return out
}

// slowClear finds for each bid what cheaper bids take, and its share of the rest among those of its price.
func slowClear(l []market.Bid, demand int) ([]int, int) {
	out, clearing := make([]int, len(l)), 0
	for i, b := range l {
		left, at := demand, 0
		var same []int
		for j, other := range l {
			switch {
			case other.Price < b.Price:
				left -= other.Quantity
			case other.Price == b.Price:
				if j < i {
					at++
				}
				same = append(same, other.Quantity)
			}
		}
		out[i] = slowCurtail(same, max(left, 0))[at]
		if out[i] > 0 {
			clearing = max(clearing, b.Price)
		}
	}
	return out, clearing
}

// slowProfit returns the profit of a schedule, unit by unit.
func slowProfit(s market.Store, prices, levels []int) int {
	profit, at := 0, s.Begin
	for q, level := range levels {
		for ; at < level; at++ {
			profit -= prices[q] + s.Fee
		}
		for ; at > level; at-- {
			profit += prices[q]
		}
	}
	return profit
}

// slowSchedule tries all schedules, in their order.
func slowSchedule(s market.Store, prices []int) ([]int, int) {
	var best []int
	most := math.MinInt
	var try func(levels []int, at int)
	try = func(levels []int, at int) {
		if len(levels) == len(prices) {
			if profit := slowProfit(s, prices, levels); profit > most {
				best, most = slices.Clone(levels), profit
			}
			return
		}
		for level := range s.Capacity + 1 {
			if level-at <= s.Power && at-level <= s.Power {
				try(append(levels, level), level)
			}
		}
	}
	try(nil, s.Begin)
	return best, most
}

// lines returns so many times the same line.
func lines(count int, line string) string { return strings.Repeat(line+"\n", count) }
