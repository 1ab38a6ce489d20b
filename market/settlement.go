package market

import (
	"nacelle/api"
	"nacelle/check"
	"nacelle/list"
)

// Quarter is the energies of a quarter that was operated.
type Quarter struct {
	Offered   int
	Available int
	Curtailed int
	Lost      int
	Metered   int
}

// The indices of figures.
const (
	offeredFigure = iota
	availableFigure
	curtailedFigure
	lostFigure
	meteredFigure
	figureCount
)

// figures are the numbers of a quarter, in the order of its text.
type figures [figureCount]int

// figures returns the numbers of a quarter.
func (q Quarter) figures() figures {
	return figures{q.Offered, q.Available, q.Curtailed, q.Lost, q.Metered}
}

// quarter returns the quarter that has these numbers.
func (f figures) quarter() Quarter {
	return Quarter{Offered: f[offeredFigure], Available: f[availableFigure], Curtailed: f[curtailedFigure], Lost: f[lostFigure], Metered: f[meteredFigure]}
}

// balanced returns figures whose available energy is the sum of what became of it.
func (f figures) balanced() figures {
	f[availableFigure] = f[curtailedFigure] + f[lostFigure] + f[meteredFigure]
	return f
}

// CheckQuarter returns the first error of a quarter, or OK.
func CheckQuarter(q Quarter) api.Errno {
	f := q.figures()
	return check.First(check.Each(f[:], checkTotal), check.That(f == f.balanced(), api.ErrConflict))
}

// checkQuarters returns the first error of quarters, or OK.
func checkQuarters(l []Quarter) api.Errno { return checkDay(l, CheckQuarter) }

// Row is the deviation and the amount of a quarter.
type Row struct {
	Deviation int
	Amount    int
}

// settled returns the row of a quarter. What was curtailed is paid as if it were fed in.
func (q Quarter) settled(p Prices) Row {
	energy := q.Metered + q.Curtailed
	return Row{Deviation: energy - q.Offered, Amount: p.revenue(q.Offered, energy)}
}

// Amount returns the amount of a quarter.
func Amount(q Quarter, p Prices) (int, api.Errno) {
	if e := check.First(CheckQuarter(q), CheckPrices(p)); e != api.OK {
		return 0, e
	}
	return q.settled(p).Amount, api.OK
}

// Settle returns the deviations and amounts of quarters.
func Settle(l []Quarter, p []Prices) ([]Row, api.Errno) {
	if e := check.First(checkQuarters(l), checkDay(p, CheckPrices), check.Shape(len(l), len(p))); e != api.OK {
		return nil, e
	}
	return list.Paired(l, p, Quarter.settled), api.OK
}

// Total is the books of quarters.
type Total struct {
	Offered   int
	Metered   int
	Curtailed int
	Lost      int
	Amount    int
}

// Books returns the books of quarters.
func Books(l []Quarter, p []Prices) (Total, api.Errno) {
	rows, e := Settle(l, p)
	var out Total
	for quarter := range len(rows) {
		q := l[quarter]
		out.Offered += q.Offered
		out.Metered += q.Metered
		out.Curtailed += q.Curtailed
		out.Lost += q.Lost
		out.Amount += rows[quarter].Amount
	}
	return out, e
}
