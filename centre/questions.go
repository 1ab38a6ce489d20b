package centre

import (
	"slices"
	"strconv"

	"nacelle/api"
	"nacelle/list"
)

// question is a question of the console: how many names it has, and the words of its result.
type question struct {
	names int
	words func(r Register, names []string) ([]string, api.Errno)
}

// questions returns the questions by their words.
func questions() map[string]question {
	return map[string]question{
		"inside":  ofTurbine(func(_ Register, t Turbine) []string { return t.Lock.Inside }),
		"keys":    ofTurbine(func(_ Register, t Turbine) []string { return t.Lock.Keys }),
		"lost":    ofTurbine(func(_ Register, t Turbine) []string { return decimals(t.Received, t.Lost) }),
		"energy":  ofTurbine(func(r Register, t Turbine) []string { return decimals(r.energy(t.Name)) }),
		"running": ofFarm(Register.running),
		"open":    ofFarm(func(r Register) []string { return decimals(r.open()...) }),
		"amount":  ofFarm(func(r Register) []string { return decimals(r.amount()) }),
	}
}

// ofTurbine returns a question of a turbine that must be there.
func ofTurbine(words func(r Register, t Turbine) []string) question {
	return question{1, func(r Register, names []string) ([]string, api.Errno) {
		at := r.index(names[0])
		if at < 0 {
			return nil, api.ErrUnknown
		}
		return words(r, r.Turbines[at]), api.OK
	}}
}

// ofFarm returns a question without a name.
func ofFarm(words func(r Register) []string) question {
	return question{0, func(r Register, _ []string) ([]string, api.Errno) { return words(r), api.OK }}
}

// decimals returns the words of numbers.
func decimals(numbers ...int) []string { return list.Changed(numbers, strconv.Itoa) }

// energy returns the sum of what the meters of a turbine have metered.
func (r Register) energy(name string) int {
	own := list.Kept(r.Meters, func(m Meter) bool { return m.Turbine == name })
	return list.Sum(list.Changed(own, Meter.metered))
}

// running returns the names of the turbines that run.
func (r Register) running() []string {
	own := list.Kept(r.Turbines, func(t Turbine) bool { return t.Lock.Running })
	return list.Changed(own, func(t Turbine) string { return t.Name })
}

// open returns the quarters that have a meter and are not settled, ascending.
func (r Register) open() []int {
	quarters := list.Changed(r.Meters, func(m Meter) int { return m.Quarter })
	left := list.Kept(quarters, func(quarter int) bool { return !r.isSettled(quarter) })
	slices.Sort(left)
	return slices.Compact(left)
}

// amount returns the sum of the amounts of all settlements.
func (r Register) amount() int {
	return list.Sum(list.Changed(r.Settled, func(s Settlement) int { return s.Amount }))
}
