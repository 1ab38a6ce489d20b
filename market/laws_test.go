package market_test

import (
	"math"
	"math/rand"
	"slices"
	"testing"

	"nacelle/api"
	"nacelle/market"
)

// lowest returns a quotient in lowest terms, by trial.
func lowest(num, by int) api.Ratio {
	for d := by; d > 1; d-- {
		if num%d == 0 && by%d == 0 {
			return api.Ratio{Num: num / d, Den: by / d}
		}
	}
	return api.Ratio{Num: num, Den: by}
}

func TestP87BestOffersAreQuantiles(t *testing.T) {
	r := rand.New(rand.NewSource(8))
	for range 1000 {
		l, p := randomEnsemble(r, 3, []int{2, 40, 100000}[r.Intn(3)]), randomPrices(r)
		q := r.Intn(3)
		best, e := market.Best(l, q, p)
		want := 0
		if p.Spot > p.Over {
			want, _ = market.Quantile(l, q, lowest(p.Spot-p.Over, p.Under-p.Over))
		}
		check(t, "the best offer", results(best, e, market.CheckBest(l, q, p, best)), want, api.OK, api.OK)
		greatest := slowExpected(l, q, p, best)
		others := append(randomNumbers(r, 5, 0, 100000), best+1, best-1, 0, 100000)
		for _, s := range l {
			others = append(others, s.Energies[q], s.Energies[q]+1, s.Energies[q]-1)
		}
		for _, other := range others {
			if other < 0 || other > 100000 || other == best {
				continue
			}
			revenue := slowExpected(l, q, p, other)
			check(t, "no other offer has more, and no lesser one as much", results(revenue.Cmp(greatest) < 0 || other > best && revenue.Cmp(greatest) == 0), true)
			check(t, "CheckBest of another offer", results(market.CheckBest(l, q, p, other)), api.ErrProof)
		}
	}
}

func TestP87QuantilesRise(t *testing.T) {
	r := rand.New(rand.NewSource(9))
	for range 200 {
		l := randomEnsemble(r, 1, 30)
		before := 0
		for num := range 61 {
			quantile, e := market.Quantile(l, 0, lowest(num, 60))
			check(t, "the quantile of a greater share", results(quantile >= before, e), true, api.OK)
			before = quantile
		}
	}
}

func TestP87SumsOfEnsembles(t *testing.T) {
	r := rand.New(rand.NewSource(10))
	for range 300 {
		a := randomEnsemble(r, 4, 40000)
		b := slices.Clone(a)
		for i := range b {
			b[i] = scenario(a[i].Weight, randomNumbers(r, 4, 0, 60000)...)
		}
		sum, e := market.Add(a, b)
		check(t, "Add", results(e, market.CheckEnsemble(sum)), api.OK, api.OK)
		for i, s := range sum {
			for q, energy := range s.Energies {
				check(t, "a sum", results(s.Weight, energy), a[i].Weight, a[i].Energies[q]+b[i].Energies[q])
			}
		}
		first, _ := market.Expected(a, 2, prices(7, 7, 7), 5)
		second, _ := market.Expected(b, 2, prices(7, 7, 7), 50)
		both, _ := market.Expected(sum, 2, prices(7, 7, 7), 500)
		check(t, "at one price the revenues are those of the energies, and add up", results(both.Num*first.Den*second.Den), both.Den*(first.Num*second.Den+second.Num*first.Den))
	}
}

func TestP87Curtailments(t *testing.T) {
	r := rand.New(rand.NewSource(11))
	for range 2000 {
		available := randomNumbers(r, r.Intn(65), 0, []int{1, 7, 100000}[r.Intn(3)])
		limit := number(r, 0, 6400000)
		if r.Intn(3) > 0 {
			limit = number(r, 0, total(available))
		}
		fed, e := market.Curtail(available, limit)
		check(t, "what is fed in", results(total(fed), len(fed), e), min(limit, total(available)), len(available), api.OK)
		for i, energy := range fed {
			check(t, "a share", results(0 <= energy && energy <= available[i]), true)
			for j, other := range fed {
				if available[i] == available[j] && i < j {
					check(t, "equal energies", results(energy == other || energy == other+1), true)
				}
				if available[i] > available[j] {
					check(t, "a greater energy", results(energy >= other-1), true)
				}
			}
		}
	}
}

func TestP87BooksAddUp(t *testing.T) {
	r := rand.New(rand.NewSource(12))
	for range 500 {
		l, p := randomDay(r, r.Intn(97))
		books, e := market.Books(l, p)
		rows, _ := market.Settle(l, p)
		available, deviations, amounts := 0, 0, 0
		for i, q := range l {
			available += q.Available
			deviations += rows[i].Deviation
			amounts += rows[i].Amount
			check(t, "Amount", results(market.Amount(q, p[i])), rows[i].Amount, api.OK)
		}
		check(t, "the books", results(books.Metered+books.Curtailed+books.Lost, books.Metered+books.Curtailed-books.Offered, books.Amount, e), available, deviations, amounts, api.OK)
		cut := r.Intn(len(l) + 1)
		first, _ := market.Books(l[:cut], p[:cut])
		second, _ := market.Books(l[cut:], p[cut:])
		check(t, "the books of two parts", results(books), market.Total{Offered: first.Offered + second.Offered, Metered: first.Metered + second.Metered, Curtailed: first.Curtailed + second.Curtailed, Lost: first.Lost + second.Lost, Amount: first.Amount + second.Amount})
	}
}

// leastCost returns the least sum of the prices of so many units, each of a bid.
func leastCost(l []market.Bid, demand int) int {
	var units []int
	for _, b := range l {
		units = append(units, slices.Repeat(numbers(b.Price), b.Quantity)...)
	}
	slices.Sort(units)
	return total(units[:demand])
}

func TestP87AcceptedBids(t *testing.T) {
	r := rand.New(rand.NewSource(13))
	for range 1000 {
		l := randomBids(r, 20, 30)
		demand := number(r, 0, quantities(l))
		accepted, clearing, e := market.Clear(l, demand)
		cost, greatest := 0, 0
		for i, n := range accepted {
			check(t, "what is accepted of a bid", results(0 <= n && n <= l[i].Quantity), true)
			check(t, "a cheaper bid is accepted as a whole, a dearer one is not", results(l[i].Price >= clearing || n == l[i].Quantity, l[i].Price <= clearing || n == 0), true, true)
			cost += n * l[i].Price
			if n > 0 {
				greatest = max(greatest, l[i].Price)
			}
		}
		check(t, "what is accepted, its cost and its greatest price", results(total(accepted), cost, clearing, e), demand, leastCost(l, demand), greatest, api.OK)
	}
}

func TestP87Schedules(t *testing.T) {
	r := rand.New(rand.NewSource(14))
	for range 60 {
		s := randomStore(r, 12)
		prices := randomNumbers(r, r.Intn(30), 0, []int{2, 9, 10000}[r.Intn(3)])
		levels, most, e := market.Schedule(s, prices)
		check(t, "the profit of the best schedule", results(market.Profit(s, prices, levels)), most, e)
		for range 100 {
			other := slices.Clone(levels)
			at := s.Begin
			for q := range other {
				if r.Intn(4) == 0 || max(at-other[q], other[q]-at) > s.Power {
					other[q] = number(r, max(at-s.Power, 0), min(at+s.Power, s.Capacity))
				}
				at = other[q]
			}
			profit, e := market.Profit(s, prices, other)
			check(t, "the profit of another schedule", results(e, profit < most || profit == most && slices.Compare(levels, other) <= 0), api.OK, true)
		}
	}
}

func TestP87Texts(t *testing.T) {
	r := rand.New(rand.NewSource(15))
	for range 500 {
		l, _ := randomDay(r, r.Intn(97))
		s, e := market.Print(l)
		check(t, "Print", results(e, len(s) <= api.MaxText), api.OK, true)
		check(t, "what was printed is parsed", results(market.Parse(s)), l, 0, api.OK)
	}
}

// TestP1ArgumentsStay: no function changes its arguments, or shares memory with them, or with an earlier result.
func TestP1ArgumentsStay(t *testing.T) {
	a, b := two(), []market.Scenario{scenario(3, 1, 2), scenario(1000, 0, 3), scenario(3, 0, 0)}
	market.Expected(a, 1, usual(), 7)
	market.Quantile(a, 1, api.Ratio{Num: 1, Den: 2})
	market.CheckBest(a, 0, usual(), 7)
	sum, _ := market.Add(a, b)
	sum[0].Weight, sum[1].Energies[0], sum[2].Energies[1] = 9, 9, 9
	check(t, "ensembles", results(a, b), two(), []market.Scenario{scenario(3, 1, 2), scenario(1000, 0, 3), scenario(3, 0, 0)})
	available := numbers(10, 10, 5)
	whole, _ := market.Curtail(available, 25)
	part, _ := market.Curtail(available, 12)
	whole[0], part[0] = 77, 77
	check(t, "available energies", results(available), numbers(10, 10, 5))
	l, p := day(), []market.Prices{usual(), free()}
	market.Settle(l, p)
	market.Books(l, p)
	market.Print(l)
	check(t, "quarters", results(l, p), day(), []market.Prices{usual(), free()})
	offered := []market.Bid{bid("z", 5, 30), bid("a", 5, 30), bid("m", 5, 20)}
	accepted, _, _ := market.Clear(offered, 15)
	accepted[0] = 77
	check(t, "bids", results(offered), []market.Bid{bid("z", 5, 30), bid("a", 5, 30), bid("m", 5, 20)})
	costs, levels := numbers(10, 5, 20), numbers(0, 1, 0)
	market.Profit(small(), costs, levels)
	best, _, _ := market.Schedule(small(), costs)
	best[1] = 77
	check(t, "prices and levels", results(costs, levels), numbers(10, 5, 20), numbers(0, 1, 0))
	check(t, "a schedule", results(market.Schedule(small(), costs)), levels, 14, api.OK)
}

// TestP1AnyArguments: no function panics or runs on, whatever its arguments are.
func TestP1AnyArguments(t *testing.T) {
	ends := numbers(math.MinInt, -1, 0, 1, 2, 64, 96, 97, 1000, 10000, 100000, 6400000, math.MaxInt)
	for _, x := range ends {
		for _, y := range ends {
			p := prices(x, y, x)
			market.Revenue(p, x, y)
			market.Revenue(usual(), x, y)
			for _, l := range [][]market.Scenario{nil, {{}}, {scenario(x, y)}, {scenario(1, 1), scenario(x, y, x)}, two()} {
				market.Expected(l, x, p, y)
				market.Expected(l, 0, usual(), y)
				market.Quantile(l, x, api.Ratio{Num: x, Den: y})
				market.Quantile(l, 0, api.Ratio{Num: x, Den: y})
				market.Best(l, y, p)
				market.CheckBest(l, x, p, y)
				market.Add(l, two())
				market.Add(two(), l)
			}
			market.Curtail(numbers(x, y), y)
			market.Curtail(numbers(3, 4), x)
			for _, q := range []market.Quarter{quarter(x, y, x, y), {Offered: x, Available: y}, {Metered: x, Lost: y}} {
				market.CheckQuarter(q)
				market.Amount(q, p)
				market.Settle([]market.Quarter{q, {}}, []market.Prices{p})
				market.Books([]market.Quarter{q}, []market.Prices{p})
				market.Print([]market.Quarter{q})
			}
			market.Clear([]market.Bid{bid("a", x, y), bid("b", y, x), bid("", x, x)}, y)
			market.Clear(bids(), x)
			for _, s := range []market.Store{store(x, y, x, y), store(64, x, 0, y), store(x, 64, y, 0), small()} {
				market.Profit(s, numbers(x, y), numbers(y, x))
				market.Profit(s, numbers(1, 2), numbers(x, y))
				market.Schedule(s, numbers(x, y))
				market.Schedule(s, numbers(9, 8, 7))
			}
		}
	}
}
