package market_test

import (
	"math"
	"math/rand"
	"testing"

	"nacelle/api"
	"nacelle/market"
)

func TestP81CheckEnsemble(t *testing.T) {
	for _, l := range [][]market.Scenario{ensemble(), two(), largest(16, 96), largest(1, 1), {scenario(1, 0)}} {
		check(t, "CheckEnsemble", results(market.CheckEnsemble(l)), api.OK)
	}
	for _, row := range wrongEnsembles {
		check(t, "CheckEnsemble", results(market.CheckEnsemble(row.l)), row.e)
	}
}

func TestP81CheckPrices(t *testing.T) {
	for _, p := range []market.Prices{usual(), free(), prices(0, 0, 10000), prices(0, 10000, 10000), prices(10000, 10000, 10000), prices(5, 5, 6), prices(5, 6, 6)} {
		check(t, "CheckPrices", results(market.CheckPrices(p)), api.OK)
	}
	for _, row := range wrongPrices {
		check(t, "CheckPrices", results(market.CheckPrices(row.p)), row.e)
	}
}

func TestP81Revenue(t *testing.T) {
	for _, row := range []struct {
		p                   market.Prices
		offer, energy, want int
	}{
		{usual(), 20, 10, 200}, {usual(), 20, 20, 1000}, {usual(), 20, 40, 1600}, {usual(), 0, 0, 0}, {usual(), 0, 7, 210}, {usual(), 7, 0, -210}, {free(), 9, 4, 0}, {prices(7, 7, 7), 9, 4, 28}, {prices(0, 0, 10000), 100000, 0, -1000000000}, {prices(10000, 10000, 10000), 0, 100000, 1000000000}, {prices(0, 10000, 10000), 100000, 100000, 1000000000},
	} {
		check(t, "Revenue", results(market.Revenue(row.p, row.offer, row.energy)), row.want, api.OK)
	}
	for _, row := range wrongPrices {
		check(t, "Revenue", results(market.Revenue(row.p, -1, -1)), 0, row.e)
	}
	for _, wrong := range append(outside, 100001) {
		check(t, "Revenue", results(market.Revenue(usual(), wrong, 5)), 0, api.ErrRange)
		check(t, "Revenue", results(market.Revenue(usual(), 5, wrong)), 0, api.ErrRange)
	}
}

func TestP81Expected(t *testing.T) {
	for _, row := range []struct {
		l              []market.Scenario
		quarter        int
		p              market.Prices
		offer, num, by int
	}{
		{ensemble(), 0, usual(), 20, 950, 1}, {ensemble(), 0, usual(), 10, 875, 1}, {ensemble(), 0, usual(), 0, 675, 1}, {ensemble(), 0, usual(), 40, 600, 1}, {ensemble(), 0, usual(), 41, 570, 1}, {ensemble(), 0, usual(), 60, 0, 1}, {ensemble(), 0, usual(), 70, -300, 1}, {ensemble(), 0, free(), 60, 0, 1},
		{two(), 0, prices(1, 1, 1), 7, 50000015, 503}, {two(), 1, prices(0, 1, 3), 8, 2488, 503}, {two(), 1, prices(0, 0, 1), 3, -9, 1006}, {largest(16, 96), 95, prices(10000, 10000, 10000), 5, 1000000000, 1}, {[]market.Scenario{scenario(1000, 0)}, 0, prices(0, 0, 10000), 100000, -1000000000, 1},
	} {
		check(t, "Expected", results(market.Expected(row.l, row.quarter, row.p, row.offer)), api.Ratio{Num: row.num, Den: row.by}, api.OK)
	}
}

func TestP81Quantile(t *testing.T) {
	many := []market.Scenario{scenario(1, 9), scenario(1, 3), scenario(2, 5), scenario(1, 3)}
	for _, row := range []struct {
		l                      []market.Scenario
		quarter, num, by, want int
	}{
		{ensemble(), 0, 1, 4, 10}, {ensemble(), 0, 2, 5, 20}, {ensemble(), 0, 1, 1, 40}, {ensemble(), 0, 0, 1, 10}, {ensemble(), 0, 3, 4, 20}, {ensemble(), 0, 250000001, 999999999, 20}, {ensemble(), 0, 250000000, 999999999, 20}, {ensemble(), 0, 249999998, 999999999, 10}, {ensemble(), 0, 749999999, 999999998, 40}, {ensemble(), 0, 999999998, 999999999, 40},
		{two(), 0, 3, 503, 5}, {two(), 0, 4, 503, 100000}, {two(), 1, 0, 1, 0}, {two(), 1, 3, 1006, 0}, {two(), 1, 1003, 1006, 7}, {two(), 1, 502, 503, 100000}, {many, 0, 2, 5, 3}, {many, 0, 3, 7, 5}, {many, 0, 4, 5, 5}, {many, 0, 5, 6, 9}, {largest(16, 96), 95, 1, 999999999, 100000},
	} {
		check(t, "Quantile", results(market.Quantile(row.l, row.quarter, api.Ratio{Num: row.num, Den: row.by})), row.want, api.OK)
	}
}

func TestP81Best(t *testing.T) {
	for _, row := range []struct {
		l       []market.Scenario
		quarter int
		p       market.Prices
		want    int
	}{
		{ensemble(), 0, usual(), 20}, {ensemble(), 0, free(), 0}, {ensemble(), 0, prices(5, 5, 5), 0}, {ensemble(), 0, prices(5, 5, 9), 0}, {ensemble(), 0, prices(0, 1, 10000), 10}, {ensemble(), 0, prices(0, 1, 4), 10}, {ensemble(), 0, prices(0, 3, 4), 20}, {ensemble(), 0, prices(0, 9999, 10000), 40}, {ensemble(), 0, prices(3, 4, 4), 40}, {ensemble(), 0, prices(0, 2501, 10000), 20},
		{two(), 0, prices(0, 1, 2), 100000}, {two(), 1, prices(0, 3, 1006), 0}, {two(), 1, prices(0, 3, 1005), 7}, {two(), 1, prices(0, 1, 1), 100000}, {largest(16, 96), 95, usual(), 100000},
	} {
		check(t, "Best", results(market.Best(row.l, row.quarter, row.p)), row.want, api.OK)
		check(t, "CheckBest", results(market.CheckBest(row.l, row.quarter, row.p, row.want)), api.OK)
		for _, other := range numbers(0, 10, 20, row.want-1, row.want+1, 40, 100000) {
			if 0 <= other && other <= 100000 && other != row.want {
				check(t, "CheckBest of another offer", results(market.CheckBest(row.l, row.quarter, row.p, other)), api.ErrProof)
			}
		}
	}
}

// TestP81OfferErrors: of the ensemble, of the quarter, of the prices or the share, and last of the offer.
func TestP81OfferErrors(t *testing.T) {
	badly, half := prices(2, 1, 3), api.Ratio{Num: 1, Den: 2}
	for _, row := range wrongEnsembles {
		check(t, "Expected", results(market.Expected(row.l, -1, badly, -1)), api.Ratio{}, row.e)
		check(t, "Quantile", results(market.Quantile(row.l, -1, api.Ratio{})), 0, row.e)
		check(t, "Best", results(market.Best(row.l, -1, badly)), 0, row.e)
		check(t, "CheckBest", results(market.CheckBest(row.l, -1, badly, -1)), row.e)
	}
	for _, number := range append(outside, 2) {
		check(t, "Expected", results(market.Expected(two(), number, badly, -1)), api.Ratio{}, api.ErrUnknown)
		check(t, "Quantile", results(market.Quantile(two(), number, api.Ratio{})), 0, api.ErrUnknown)
		check(t, "Best", results(market.Best(two(), number, badly)), 0, api.ErrUnknown)
		check(t, "CheckBest", results(market.CheckBest(two(), number, badly, -1)), api.ErrUnknown)
		check(t, "Quantile", results(market.Quantile(largest(16, 96), 96, half)), 0, api.ErrUnknown)
	}
	for _, row := range wrongPrices {
		check(t, "Expected", results(market.Expected(two(), 1, row.p, -1)), api.Ratio{}, row.e)
		check(t, "Best", results(market.Best(two(), 1, row.p)), 0, row.e)
		check(t, "CheckBest", results(market.CheckBest(two(), 1, row.p, -1)), row.e)
	}
	for _, offer := range append(outside, 100001) {
		check(t, "Expected", results(market.Expected(two(), 1, usual(), offer)), api.Ratio{}, api.ErrRange)
		check(t, "CheckBest", results(market.CheckBest(two(), 1, usual(), offer)), api.ErrRange)
	}
}

func TestP81ShareErrors(t *testing.T) {
	for _, row := range []struct {
		num, by int
		e       api.Errno
	}{
		{1, 0, api.ErrRange}, {1, -1, api.ErrRange}, {-1, -2, api.ErrRange}, {0, 0, api.ErrRange}, {1, 1000000000, api.ErrRange}, {1000000000, 1, api.ErrRange}, {-1000000000, 1, api.ErrRange}, {1000000000, 2, api.ErrRange}, {-1000000000, 2, api.ErrRange}, {math.MinInt, 2, api.ErrRange}, {math.MinInt, 1, api.ErrRange}, {1, math.MinInt, api.ErrRange}, {math.MaxInt, math.MaxInt, api.ErrRange},
		{2, 4, api.ErrForm}, {0, 2, api.ErrForm}, {2, 2, api.ErrForm}, {4, 2, api.ErrForm}, {-2, 4, api.ErrForm}, {999999999, 999999999, api.ErrForm}, {-999999999, 3, api.ErrForm}, {333333333, 999999999, api.ErrForm},
		{3, 2, api.ErrRange}, {2, 1, api.ErrRange}, {-1, 2, api.ErrRange}, {-1, 1, api.ErrRange}, {999999999, 999999998, api.ErrRange}, {-999999999, 1, api.ErrRange},
	} {
		check(t, "Quantile", results(market.Quantile(ensemble(), 0, api.Ratio{Num: row.num, Den: row.by})), 0, row.e)
	}
}

// TestP81Otherwise compares with revenues, offers and quantiles that are looked for one by one.
func TestP81Otherwise(t *testing.T) {
	r := rand.New(rand.NewSource(1))
	for range 300 {
		most := []int{3, 12, 30}[r.Intn(3)]
		l, p := randomEnsemble(r, 2, most), randomPrices(r)
		quarter, offer := r.Intn(2), r.Intn(most+5)
		check(t, "Revenue", results(market.Revenue(p, offer, l[0].Energies[quarter])), slowRevenue(p, offer, l[0].Energies[quarter]), api.OK)
		revenue, e := market.Expected(l, quarter, p, offer)
		want := slowExpected(l, quarter, p, offer)
		check(t, "Expected", results(revenue.Num, revenue.Den, e), want.Num(), want.Denom(), api.OK)
		check(t, "Best", results(market.Best(l, quarter, p)), slowBest(l, quarter, p, most+3), api.OK)
		by := 1 + r.Intn(2*most)
		for num := range by + 1 {
			if share := (api.Ratio{Num: num, Den: by}); coprime(num, by) {
				check(t, "Quantile", results(market.Quantile(l, quarter, share)), slowQuantile(l, quarter, share), api.OK)
			}
		}
	}
}

// coprime reports whether no number above 1 divides both.
func coprime(a, b int) bool {
	for d := 2; d <= b; d++ {
		if a%d == 0 && b%d == 0 {
			return false
		}
	}
	return true
}

func TestP81Add(t *testing.T) {
	for _, row := range []struct{ a, b, want []market.Scenario }{
		{ensemble(), ensemble(), []market.Scenario{scenario(1, 20), scenario(2, 40), scenario(1, 80)}},
		{two(), []market.Scenario{scenario(3, 1, 2), scenario(1000, 0, 3), scenario(3, 99995, 0)}, []market.Scenario{scenario(3, 6, 2), scenario(1000, 100000, 10), scenario(3, 100000, 100000)}},
		{[]market.Scenario{scenario(7, 0)}, []market.Scenario{scenario(7, 0)}, []market.Scenario{scenario(7, 0)}}, {[]market.Scenario{scenario(7, 50000)}, []market.Scenario{scenario(7, 50000)}, []market.Scenario{scenario(7, 100000)}},
	} {
		check(t, "Add", results(market.Add(row.a, row.b)), row.want, api.OK)
		check(t, "Add", results(market.Add(row.b, row.a)), row.want, api.OK)
	}
	none := largest(16, 96)
	for _, s := range none {
		clear(s.Energies)
	}
	check(t, "Add of the largest ensemble", results(market.Add(largest(16, 96), none)), largest(16, 96), api.OK)
}

func TestP81AddErrors(t *testing.T) {
	for _, row := range wrongEnsembles {
		check(t, "Add", results(market.Add(row.l, []market.Scenario{scenario(0, 1)})), noScenarios, row.e)
		check(t, "Add", results(market.Add(ensemble(), row.l)), noScenarios, row.e)
	}
	for _, row := range []struct {
		a, b []market.Scenario
		e    api.Errno
	}{
		{ensemble(), ensemble()[:2], api.ErrShape}, {ensemble()[:1], ensemble(), api.ErrShape}, {ensemble(), two(), api.ErrShape}, {two(), ensemble(), api.ErrShape}, {largest(2, 2), largest(2, 1), api.ErrShape}, {two()[:2], two(), api.ErrShape}, {largest(1, 1), []market.Scenario{scenario(1, 1), scenario(1, 1)}, api.ErrShape},
		{[]market.Scenario{scenario(1, 5)}, []market.Scenario{scenario(2, 5)}, api.ErrConflict}, {[]market.Scenario{scenario(1, 5), scenario(2, 5)}, []market.Scenario{scenario(2, 5), scenario(1, 5)}, api.ErrConflict}, {[]market.Scenario{scenario(1, 100000), scenario(2, 5)}, []market.Scenario{scenario(1, 1), scenario(1, 5)}, api.ErrConflict}, {[]market.Scenario{scenario(1, 100000)}, []market.Scenario{scenario(2, 1)}, api.ErrConflict},
		{[]market.Scenario{scenario(1, 100000)}, []market.Scenario{scenario(1, 1)}, api.ErrLarge}, {two(), two(), api.ErrLarge}, {largest(16, 96), largest(16, 96), api.ErrLarge}, {[]market.Scenario{scenario(1, 0, 0), scenario(1, 0, 50001)}, []market.Scenario{scenario(1, 0, 0), scenario(1, 0, 50000)}, api.ErrLarge},
	} {
		check(t, "Add", results(market.Add(row.a, row.b)), noScenarios, row.e)
	}
}
