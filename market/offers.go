package market

import (
	"iter"
	"slices"

	"nacelle/api"
	"nacelle/check"
	"nacelle/list"
	"nacelle/ratio"
)

// Scenario is a weight, and an energy for each quarter.
type Scenario struct {
	Weight   int
	Energies []int
}

// check returns the first error of a scenario in an ensemble with so many quarters, or OK.
func (s Scenario) check(quarters int) api.Errno {
	count := len(s.Energies)
	return check.First(
		check.Range(s.Weight, 1, MaxWeight),
		check.Filled(count, MaxQuarters), check.Shape(count, quarters),
		check.Each(s.Energies, checkEnergy),
	)
}

// quartersOf returns how many quarters an ensemble has. It is not empty.
func quartersOf(l []Scenario) int { return len(l[0].Energies) }

// CheckEnsemble returns the first error of an ensemble, or OK.
func CheckEnsemble(l []Scenario) api.Errno {
	return check.First(
		check.Filled(len(l), MaxScenarios),
		check.Each(l, func(s Scenario) api.Errno { return s.check(quartersOf(l)) }),
	)
}

// forecast is the energies of a quarter of an ensemble.
type forecast struct {
	ensemble []Scenario
	quarter  int
}

// forecastOf returns the energies of a quarter, or the first error of the ensemble and of the number of the quarter.
func forecastOf(l []Scenario, quarter int) (forecast, api.Errno) {
	if e := CheckEnsemble(l); e != api.OK {
		return forecast{}, e
	}
	if quarter < 0 || quarter >= quartersOf(l) {
		return forecast{}, api.ErrUnknown
	}
	return forecast{ensemble: l, quarter: quarter}, api.OK
}

// cases visits the weight and the energy of each scenario.
func (f forecast) cases() iter.Seq2[int, int] {
	return func(yield func(int, int) bool) {
		for _, s := range f.ensemble {
			if !yield(s.Weight, s.Energies[f.quarter]) {
				return
			}
		}
	}
}

// weight returns the weight of all scenarios.
func (f forecast) weight() int {
	return list.Sum(list.Changed(f.ensemble, func(s Scenario) int { return s.Weight }))
}

// energies returns the energies of all scenarios, ascending.
func (f forecast) energies() []int {
	out := list.Changed(f.ensemble, func(s Scenario) int { return s.Energies[f.quarter] })
	slices.Sort(out)
	return out
}

// expected returns the expected revenue of an offer.
func (f forecast) expected(p Prices, offer int) api.Ratio {
	sum := 0
	for weight, energy := range f.cases() {
		sum += weight * p.revenue(offer, energy)
	}
	return ratio.Of(sum, f.weight())
}

// quantile returns the least energy such that the weights of those up to it are at least a share of all.
func (f forecast) quantile(share api.Ratio) int {
	out, whole := 0, f.weight()
search:
	for _, candidate := range f.energies() {
		reached := 0
		for weight, energy := range f.cases() {
			if energy <= candidate {
				reached += weight
			}
			if reached*share.Den >= share.Num*whole {
				out = candidate
				break search
			}
		}
	}
	return out
}

// best returns the best offer. To offer one more wins Spot - Over with an energy above the offer, and loses Under - Spot with any other one:
// it pays as long as the weights of the energies up to the offer are below a share of all. Where Spot is Over it never pays.
func (f forecast) best(p Prices) int {
	if p.Spot == p.Over {
		return 0
	}
	return f.quantile(ratio.Of(p.Spot-p.Over, p.Under-p.Over))
}

// Expected returns the expected revenue of an offer.
func Expected(l []Scenario, quarter int, p Prices, offer int) (api.Ratio, api.Errno) {
	f, e := forecastOf(l, quarter)
	if e := check.First(e, CheckPrices(p), checkEnergy(offer)); e != api.OK {
		return api.Ratio{}, e
	}
	return f.expected(p, offer), api.OK
}

// checkShare returns the first error of a share, or OK.
func checkShare(share api.Ratio) api.Errno {
	if e := check.First(check.Range(share.Num, -api.MaxNumber, api.MaxNumber), check.Range(share.Den, 1, api.MaxNumber)); e != api.OK {
		return e
	}
	return check.First(check.That(ratio.Of(share.Num, share.Den) == share, api.ErrForm), check.Range(share.Num, 0, share.Den))
}

// Quantile returns the quantile of a share.
func Quantile(l []Scenario, quarter int, share api.Ratio) (int, api.Errno) {
	f, e := forecastOf(l, quarter)
	if e := check.First(e, checkShare(share)); e != api.OK {
		return 0, e
	}
	return f.quantile(share), api.OK
}

// Best returns the best offer.
func Best(l []Scenario, quarter int, p Prices) (int, api.Errno) {
	f, e := forecastOf(l, quarter)
	if e := check.First(e, CheckPrices(p)); e != api.OK {
		return 0, e
	}
	return f.best(p), api.OK
}

// CheckBest returns OK for the best offer.
func CheckBest(l []Scenario, quarter int, p Prices, offer int) api.Errno {
	best, e := Best(l, quarter, p)
	return check.First(e, checkEnergy(offer), check.That(offer == best, api.ErrProof))
}

// plus returns a scenario with the energies of two that have the same weight and equally many quarters.
func (s Scenario) plus(t Scenario) Scenario {
	return Scenario{Weight: s.Weight, Energies: list.Paired(s.Energies, t.Energies, func(a, b int) int { return a + b })}
}

// weighs reports whether two scenarios have the same weight.
func (s Scenario) weighs(t Scenario) bool { return s.Weight == t.Weight }

// fits returns ErrLarge if an energy is above MaxEnergy.
func (s Scenario) fits() api.Errno {
	return check.That(slices.Max(s.Energies) <= MaxEnergy, api.ErrLarge)
}

// Add returns the sum of two ensembles.
func Add(a, b []Scenario) ([]Scenario, api.Errno) {
	if e := check.First(CheckEnsemble(a), CheckEnsemble(b)); e != api.OK {
		return nil, e
	}
	if e := check.First(check.Shape(len(a), len(b)), check.Shape(quartersOf(a), quartersOf(b))); e != api.OK {
		return nil, e
	}
	sums := list.Paired(a, b, Scenario.plus)
	if e := check.First(check.That(slices.EqualFunc(a, b, Scenario.weighs), api.ErrConflict), check.Each(sums, Scenario.fits)); e != api.OK {
		return nil, e
	}
	return sums, api.OK
}
