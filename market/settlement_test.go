package market_test

import (
	"math/rand"
	"slices"
	"testing"

	"nacelle/api"
	"nacelle/market"
)

// most is the quarter with the greatest amount by the greatest prices, least the one with the least amount.
func most() market.Quarter { return quarter(0, 3200000, 0, 3200000) }

func least() market.Quarter { return quarter(6400000, 0, 6400000, 0) }

func TestP83CheckQuarter(t *testing.T) {
	for _, q := range append(day(), market.Quarter{}, most(), least(), quarter(6400000, 6400000, 0, 0), quarter(0, 0, 6400000, 0), quarter(0, 0, 0, 6400000), quarter(9, 1, 2, 3)) {
		check(t, "CheckQuarter", results(market.CheckQuarter(q)), api.OK)
	}
	for _, row := range wrongQuarters {
		check(t, "CheckQuarter", results(market.CheckQuarter(row.q)), row.e)
	}
}

func TestP83Amount(t *testing.T) {
	for _, row := range []struct {
		q    market.Quarter
		p    market.Prices
		want int
	}{
		{day()[0], usual(), 1120}, {day()[1], usual(), 600}, {quarter(20, 7, 9, 13), usual(), 1000}, {market.Quarter{}, usual(), 0}, {quarter(0, 1, 5, 0), usual(), 30}, {quarter(1, 0, 5, 0), usual(), -30}, {day()[0], free(), 0}, {most(), prices(10000, 10000, 10000), 64000000000}, {least(), prices(0, 0, 10000), -64000000000}, {least(), prices(10000, 10000, 10000), 0}, {quarter(6400000, 6400000, 0, 0), prices(0, 10000, 10000), 64000000000},
	} {
		check(t, "Amount", results(market.Amount(row.q, row.p)), row.want, api.OK)
	}
	for _, row := range wrongQuarters {
		check(t, "Amount", results(market.Amount(row.q, prices(2, 1, 0))), 0, row.e)
	}
	for _, row := range wrongPrices {
		check(t, "Amount", results(market.Amount(day()[0], row.p)), 0, row.e)
	}
}

// rows returns rows: the deviation and the amount of each one in turn.
func rows(n ...int) []market.Row {
	var out []market.Row
	for pair := range slices.Chunk(n, 2) {
		out = append(out, market.Row{Deviation: pair[0], Amount: pair[1]})
	}
	return out
}

func TestP83Settle(t *testing.T) {
	for _, row := range []struct {
		l     []market.Quarter
		p     []market.Prices
		want  []market.Row
		books market.Total
	}{
		{nil, nil, nil, market.Total{}},
		{day(), []market.Prices{usual(), usual()}, rows(4, 1120, -5, 600), market.Total{Offered: 40, Metered: 34, Curtailed: 5, Lost: 1, Amount: 1720}},
		{day(), []market.Prices{free(), prices(1, 2, 3)}, rows(4, 0, -5, 25), market.Total{Offered: 40, Metered: 34, Curtailed: 5, Lost: 1, Amount: 25}},
		{[]market.Quarter{quarter(5, 0, 4, 0), {}, quarter(5, 5, 0, 0)}, []market.Prices{prices(0, 0, 7), usual(), prices(1, 1, 1)}, rows(-5, -35, 0, 0, 0, 5), market.Total{Offered: 10, Curtailed: 5, Lost: 4, Amount: -30}},
		{slices.Repeat([]market.Quarter{most()}, 96), slices.Repeat([]market.Prices{prices(10000, 10000, 10000)}, 96), slices.Repeat(rows(6400000, 64000000000), 96), market.Total{Metered: 307200000, Curtailed: 307200000, Amount: 6144000000000}},
		{slices.Repeat([]market.Quarter{least()}, 96), slices.Repeat([]market.Prices{prices(0, 0, 10000)}, 96), slices.Repeat(rows(-6400000, -64000000000), 96), market.Total{Offered: 614400000, Lost: 614400000, Amount: -6144000000000}},
	} {
		check(t, "Settle", results(market.Settle(row.l, row.p)), row.want, api.OK)
		check(t, "Books", results(market.Books(row.l, row.p)), row.books, api.OK)
	}
}

// TestP83SettleErrors: of the quarters, of the prices, and last of their numbers.
func TestP83SettleErrors(t *testing.T) {
	var all []market.Prices
	type call struct {
		l []market.Quarter
		p []market.Prices
		e api.Errno
	}
	var calls []call
	for e, l := range wrongDays() {
		calls = append(calls, call{l, all, e}, call{l, slices.Repeat([]market.Prices{prices(2, 1, 0)}, 97), e})
	}
	for _, row := range wrongQuarters {
		calls = append(calls, call{append(day(), row.q), all, row.e})
	}
	for _, row := range wrongPrices {
		calls = append(calls, call{day(), []market.Prices{usual(), row.p}, row.e}, call{day(), []market.Prices{row.p, prices(2, 1, 3), prices(-1, 0, 0)}, row.e}, call{nil, []market.Prices{free(), row.p}, row.e})
	}
	calls = append(calls,
		call{day(), make([]market.Prices, 97), api.ErrMany}, call{nil, slices.Repeat([]market.Prices{prices(2, 1, 0)}, 97), api.ErrMany},
		call{day(), all, api.ErrShape}, call{day(), []market.Prices{usual()}, api.ErrShape}, call{day(), []market.Prices{usual(), usual(), usual()}, api.ErrShape}, call{nil, []market.Prices{usual()}, api.ErrShape}, call{make([]market.Quarter, 96), make([]market.Prices, 95), api.ErrShape},
	)
	for _, c := range calls {
		check(t, "Settle", results(market.Settle(c.l, c.p)), noRows, c.e)
		check(t, "Books", results(market.Books(c.l, c.p)), market.Total{}, c.e)
	}
}

// TestP83Otherwise compares with sums of numbers that are taken one by one.
func TestP83Otherwise(t *testing.T) {
	r := rand.New(rand.NewSource(3))
	for range 1000 {
		l, p := randomDay(r, r.Intn(97))
		var want []market.Row
		var books market.Total
		for i, q := range l {
			deviation := q.Available - q.Lost - q.Offered
			amount := slowRevenue(p[i], q.Offered, q.Offered+deviation)
			want = append(want, market.Row{Deviation: deviation, Amount: amount})
			books = market.Total{Offered: books.Offered + q.Offered, Metered: books.Metered + q.Metered, Curtailed: books.Curtailed + q.Curtailed, Lost: books.Lost + q.Lost, Amount: books.Amount + amount}
			check(t, "Amount", results(market.Amount(q, p[i])), amount, api.OK)
		}
		check(t, "Settle", results(market.Settle(l, p)), want, api.OK)
		check(t, "Books", results(market.Books(l, p)), books, api.OK)
	}
}
