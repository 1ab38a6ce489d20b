package centre

import (
	"slices"

	"nacelle/api"
	"nacelle/check"
	"nacelle/list"
	"nacelle/market"
	"nacelle/work"
)

// enter is the kind of an act by which somebody goes inside.
const enter = "enter"

// Turbine is a turbine with its lock, and what it reported.
type Turbine struct {
	Name     string
	Capacity int
	Lock     work.Lock
	Sequence int
	Received int
	Lost     int
	Power    int
}

// follow returns how many telegrams of a turbine were lost before one with a sequence number. Before its first one none was.
func (t Turbine) follow(sequence int) (int, api.Errno) {
	if t.Received == 0 {
		return 0, api.OK
	}
	return Follow(t.Sequence, sequence)
}

// Settlement is a quarter that was settled.
type Settlement struct {
	Quarter int
	Offered int
	Amount  int
}

// unsettled stands for the settlement of a quarter that has none: no quarter is below 0.
var unsettled = Settlement{Quarter: -1}

// Register is what the events of a centre result in.
type Register struct {
	Day      int
	Turbines []Turbine
	Meters   []Meter
	Settled  []Settlement
}

// index returns the index of the turbine with a name, or -1.
func (r Register) index(name string) int {
	return slices.IndexFunc(r.Turbines, func(t Turbine) bool { return t.Name == name })
}

// settlement returns the settlement of a quarter, or unsettled.
func (r Register) settlement(quarter int) Settlement {
	i := slices.IndexFunc(r.Settled, func(s Settlement) bool { return s.Quarter == quarter })
	if i < 0 {
		return unsettled
	}
	return r.Settled[i]
}

// isSettled reports whether a quarter was settled.
func (r Register) isSettled(quarter int) bool { return r.settlement(quarter) != unsettled }

// checkOpen returns ErrOver if a quarter was settled.
func (r Register) checkOpen(quarter int) api.Errno {
	return check.That(!r.isSettled(quarter), api.ErrOver)
}

// whereabouts returns the index of the turbine in which somebody is, or -1.
func (r Register) whereabouts(person string) int {
	at := -1
search:
	for i, t := range r.Turbines {
		for _, name := range t.Lock.Inside {
			if name == person {
				at = i
				break search
			}
		}
	}
	return at
}

// changed returns a register in which a turbine is changed; the turbines of the other one stay as they are.
func (r Register) changed(at int, change func(Turbine) Turbine) Register {
	r.Turbines = list.Replaced(r.Turbines, at, change)
	return r
}

// withTurbine returns the register behind a new turbine.
func (r Register) withTurbine(event api.Event) (Register, api.Errno) {
	t := Turbine{Name: event.Names[0], Capacity: event.Values[1], Lock: work.Begin()}
	e := check.First(
		check.That(r.index(t.Name) < 0, api.ErrTwice), check.Range(t.Capacity, 1, market.MaxEnergy), check.Many(len(r.Turbines)+1, api.MaxTurbines),
	)
	r.Turbines = slices.Concat(r.Turbines, []Turbine{t})
	return r, e
}

// withTelegram returns the register behind a telegram of a turbine.
func (r Register) withTelegram(at int, event api.Event) (Register, api.Errno) {
	t, sequence, power := r.Turbines[at], event.Values[1], event.Values[2]
	lost, following := t.follow(sequence)
	e := check.First(
		checkWord(sequence), check.That(power <= t.Capacity, api.ErrLarge), check.That(power == 0 || t.Lock.Running, api.ErrState), following,
	)
	return r.changed(at, func(t Turbine) Turbine {
		t.Received++
		t.Lost += lost
		t.Sequence, t.Power = sequence, power
		return t
	}), e
}

// withAct returns the register behind an act without a name.
func (r Register) withAct(at int, event api.Event) (Register, api.Errno) {
	return r.acted(at, work.Act{Kind: event.Names[1]})
}

// withPerson returns the register behind an act with a name.
func (r Register) withPerson(at int, event api.Event) (Register, api.Errno) {
	return r.acted(at, work.Act{Kind: event.Names[1], Name: event.Names[2]})
}

// acted returns the register behind an act at a turbine. The act has a name that is right, or none, so that another error of it is that of its kind.
func (r Register) acted(at int, act work.Act) (Register, api.Errno) {
	lock, forbidden := work.Next(r.Turbines[at].Lock, act)
	e := check.First(
		check.That(work.CheckAct(act) == api.OK, api.ErrKind), forbidden, check.That(act.Kind != enter || r.whereabouts(act.Name) < 0, api.ErrConflict),
	)
	return r.changed(at, func(t Turbine) Turbine {
		t.Lock = lock
		return t
	}), e
}

// withMeter returns the register behind a meter of a turbine.
func (r Register) withMeter(at int, event api.Event) (Register, api.Errno) {
	t, values := r.Turbines[at], event.Values
	m := Meter{Turbine: t.Name, Quarter: values[1], Available: values[2], Curtailed: values[3], Lost: values[4]}
	isThere := slices.ContainsFunc(r.Meters, func(other Meter) bool { return other.Turbine == m.Turbine && other.Quarter == m.Quarter })
	e := check.First(
		checkQuarter(m.Quarter), check.That(m.Available <= t.Capacity, api.ErrLarge), m.checkRest(),
		r.checkOpen(m.Quarter), check.That(!isThere, api.ErrTwice), check.Many(len(r.Meters)+1, MaxMeters),
	)
	r.Meters = slices.Concat(r.Meters, []Meter{m})
	return r, e
}

// withSettlement returns the register behind the settlement of a quarter.
func (r Register) withSettlement(event api.Event) (Register, api.Errno) {
	quarter, offered := event.Values[1], event.Values[2]
	prices := market.Prices{Over: event.Values[3], Spot: event.Values[4], Under: event.Values[5]}
	q, wrong := QuarterOf(r.Meters, quarter, offered)
	amount, _ := market.Amount(q, prices)
	e := check.First(
		checkQuarter(quarter), checkOffer(offered), market.CheckPrices(prices),
		r.checkOpen(quarter), wrong, check.Many(len(r.Settled)+1, MaxSettlements),
	)
	r.Settled = slices.Concat(r.Settled, []Settlement{{Quarter: quarter, Offered: offered, Amount: amount}})
	return r, e
}
