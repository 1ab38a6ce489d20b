package centre

import (
	"nacelle/api"
	"nacelle/check"
	"nacelle/list"
	"nacelle/market"
)

// Meter is what a turbine could have given in a quarter, and what of it was curtailed and lost.
type Meter struct {
	Turbine   string
	Quarter   int
	Available int
	Curtailed int
	Lost      int
}

// metered returns what was metered: the rest of what was available.
func (m Meter) metered() int { return m.Available - m.Curtailed - m.Lost }

// checkRest returns ErrConflict if more was curtailed and lost than was available.
func (m Meter) checkRest() api.Errno { return check.That(m.metered() >= 0, api.ErrConflict) }

// check returns the first error of a meter, or OK.
func (m Meter) check() api.Errno {
	return check.First(
		checkName(m.Turbine), checkQuarter(m.Quarter), checkEnergy(m.Available), checkEnergy(m.Curtailed), checkEnergy(m.Lost), m.checkRest(),
	)
}

// quarterOf returns the quarter of its meters.
func quarterOf(l []Meter, offered int) market.Quarter {
	out := market.Quarter{Offered: offered}
	for _, m := range l {
		out.Available += m.Available
		out.Curtailed += m.Curtailed
		out.Lost += m.Lost
		out.Metered += m.metered()
	}
	return out
}

// QuarterOf returns the quarter of meters.
func QuarterOf(l []Meter, quarter, offered int) (market.Quarter, api.Errno) {
	own := list.Kept(l, func(m Meter) bool { return m.Quarter == quarter })
	out := quarterOf(own, offered)
	e := check.First(
		check.Many(len(l), MaxMeters), check.Each(l, Meter.check), checkQuarter(quarter), checkOffer(offered),
		check.That(len(own) > 0, api.ErrNone), check.That(out.Available <= market.MaxTotal, api.ErrLarge),
	)
	if e != api.OK {
		return market.Quarter{}, e
	}
	return out, api.OK
}
