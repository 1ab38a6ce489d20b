package control_test

import (
	"math"
	"math/rand"
	"slices"
	"testing"

	"nacelle/api"
	"nacelle/control"
)

// acts returns all acts of a machine.
func acts(m control.Machine) []control.Act {
	out := []control.Act{bare("repair"), bare("rest"), bare("start"), bare("stop")}
	for stuck := -1; stuck < 3; stuck++ {
		for wind := range m.Wind + 1 {
			out = append(out, brake(wind, stuck))
			for pitch := range m.Feather + 1 {
				for torque := range m.Torque + 1 {
					out = append(out, tick(wind, pitch, torque, stuck))
				}
			}
		}
	}
	return out
}

// reached returns all states behind the histories of a small machine.
func reached(t *testing.T, m control.Machine) []control.State {
	first, e := control.Begin(m)
	check(t, "Begin", e, api.OK)
	out, seen := []control.State{first}, map[control.State]bool{first: true}
	all := acts(m)
	for i := 0; i < len(out); i++ {
		for _, a := range all {
			next, e := control.Next(m, out[i], a)
			if e == api.OK && !seen[next] {
				seen[next] = true
				out = append(out, next)
			}
		}
	}
	return out
}

// small are machines that have few states.
func small() []control.Machine {
	return []control.Machine{machine(1, 1, 1, 1, 3, 2, 1), machine(3, 2, 1, 1, 6, 3, 1), machine(2, 2, 2, 0, 4, 4, 2), machine(4, 3, 1, 1, 5, 2, 3)}
}

func TestP56NoHistoryPassesTheLimit(t *testing.T) {
	for _, m := range small() {
		states := reached(t, m)
		modes := map[string]int{}
		for _, s := range states {
			modes[s.Mode]++
			check(t, "CheckState", control.CheckState(m, s), api.OK)
			check(t, "the limit", s.Speed <= m.Limit, true)
			safe, e := control.Safe(m, s)
			check(t, "Safe", e, api.OK)
			check(t, "Safe", safe, true)
		}
		check(t, "modes", len(modes), 3)
	}
}

func TestP56BrakesArePermitted(t *testing.T) {
	for _, m := range small() {
		for _, s := range reached(t, m) {
			if s.Mode == "run" {
				number, e := control.Allowed(m, s, bare("stop"))
				check(t, "Allowed", e, api.OK)
				check(t, "a stop is permitted", number, 0)
			}
			if s.Mode != "stop" {
				continue
			}
			for stuck := -1; stuck < 3; stuck++ {
				for wind := range m.Wind + 1 {
					number, e := control.Allowed(m, s, brake(wind, stuck))
					check(t, "Allowed", e, api.OK)
					if stuck == -1 || s.Stuck == -1 || s.Stuck == stuck {
						check(t, "a brake is permitted", number, 0)
					} else {
						check(t, "a second stuck blade", number, 6)
					}
				}
			}
		}
	}
}

func TestP56ProposalsArePermitted(t *testing.T) {
	for _, m := range small() {
		for _, s := range reached(t, m) {
			for wind := range m.Wind + 1 {
				a, e := control.Propose(m, s, wind)
				check(t, "Propose", e, api.OK)
				number, e := control.Allowed(m, s, a)
				check(t, "Allowed", e, api.OK)
				check(t, "the proposal is permitted", number, 0)
			}
		}
	}
}

func TestP56StopsRest(t *testing.T) {
	r := rand.New(rand.NewSource(8))
	for range 300 {
		m := randomMachine(r)
		l, s := randomHistory(r, m, 30)
		check(t, "the limit", s.Speed <= m.Limit, true)
		if s.Mode == "run" {
			l = append(l, bare("stop"))
			s, _ = control.Next(m, s, bare("stop"))
		}
		stuck := s.Stuck
		if stuck == -1 {
			stuck = r.Intn(4) - 1
		}
		for steps := 0; s.Mode == "stop"; steps++ {
			a := bare("rest")
			if number, _ := control.Allowed(m, s, a); number != 0 {
				a = brake(r.Intn(m.Wind+1), stuck)
			}
			next, e := control.Next(m, s, a)
			check(t, "Next", e, api.OK)
			if steps > 4096 || e != api.OK {
				t.Fatalf("a stop of %v does not come to rest", m)
			}
			s = next
		}
		check(t, "the mode behind a stop", s.Mode, "idle")
		text, e := control.Print(l)
		check(t, "Print", e, api.OK)
		back, _, e := control.Parse(text)
		check(t, "Parse", e, api.OK)
		checkList(t, "a history that was parsed", back, l)
	}
}

func TestP56SafeStates(t *testing.T) {
	r := rand.New(rand.NewSource(9))
	for range 1500 {
		m := randomMachine(r)
		s := randomState(r, m)
		safe, _ := control.Safe(m, s)
		if !safe {
			continue
		}
		better := s
		better.Speed = number(r, 0, s.Speed)
		for blade, pitch := range s.Pitch {
			better.Pitch[blade] = number(r, pitch, m.Feather)
		}
		safe, e := control.Safe(m, better)
		check(t, "Safe", e, api.OK)
		check(t, "a state with less speed, and blades nearer to Feather, is safe", safe, true)
	}
}

func TestP56Peaks(t *testing.T) {
	r := rand.New(rand.NewSource(10))
	for range 500 {
		m := randomMachine(r)
		s, stuck := randomState(r, m), r.Intn(3)
		peak, _, e := control.Peak(m, s, stuck)
		check(t, "Peak", e, api.OK)
		free, _, _ := control.Peak(m, s, -1)
		check(t, "the peak without a stuck blade is not greater", free <= peak, true)
		lull := m
		lull.Wind = number(r, 1, m.Wind)
		less, _, e := control.Peak(lull, s, stuck)
		check(t, "Peak", e, api.OK)
		check(t, "the peak in less wind is not greater", less <= peak, true)
		changing := s
		for range 40 {
			next, e := control.Braked(m, changing, r.Intn(m.Wind+1), []int{stuck, -1}[r.Intn(2)])
			if e != api.OK {
				check(t, "a speed above the limit", peak > m.Limit, true)
				break
			}
			check(t, "the speed in changing wind, with a blade that moves at times", next.Speed <= peak, true)
			changing = next
		}
	}
}

func TestP56TablesDoNotFall(t *testing.T) {
	r := rand.New(rand.NewSource(11))
	for range 60 {
		m := randomMachine(r)
		table, e := control.Table(m)
		check(t, "Table", e, api.OK)
		check(t, "the last row", table[len(table)-1], control.Row{Pitch: m.Feather, Speed: m.Limit})
		for i, row := range table[1:] {
			check(t, "the angles follow", row.Pitch, table[i].Pitch+1)
			check(t, "the table falls", row.Speed < table[i].Speed, false)
		}
	}
}

// TestP1ArgumentsStay: no function changes its arguments, or shares memory with them.
func TestP1ArgumentsStay(t *testing.T) {
	l := history()
	control.Replay(m(), l)
	control.Speeds(m(), l)
	control.Energy(m(), l)
	control.Print(l)
	checkList(t, "a history", l, history())
	stop, _ := control.Stop(m(), turning(), 0)
	before := slices.Clone(stop)
	control.CheckStop(m(), turning(), 0, stop)
	checkList(t, "a stop", stop, before)
	winds := []int{3, 1, 2}
	control.Run(m(), winds)
	control.Ramps(winds, 1)
	checkList(t, "winds", winds, []int{3, 1, 2})
}

// TestP1AnyArguments: no function panics or runs on, whatever its arguments are.
func TestP1AnyArguments(t *testing.T) {
	numbers := []int{math.MinInt, -2, -1, 0, 1, 2, 3, 1000, math.MaxInt}
	for _, x := range numbers {
		for _, y := range numbers {
			machines := []control.Machine{{}, m(), greatest(), machine(x, y, x, y, x, y, x), machine(10, x, 1, y, x, 1, 1), machine(x, 6, 2, 8, 40, y, 1), machine(1, y, 1, x, y, 1, y)}
			states := []control.State{{}, turning(), state("run", x, y, 0, 0, 0), state("stop", y, x, x, 0, y), state("idle", 0, x, y, y, y)}
			some := []control.Act{{}, bare("start"), bare("stop"), tick(x, y, x, y), brake(x, y), act("rest", x, 0, 0, y), tick(1, x, 1, y)}
			for _, m := range machines {
				control.Begin(m)
				control.Table(m)
				control.Replay(m, some)
				control.Speeds(m, some[1:])
				control.Energy(m, some)
				control.Run(m, []int{x, y})
				for _, s := range states {
					control.Braked(m, s, x, y)
					control.Stop(m, s, y)
					control.CheckStop(m, s, x, states)
					control.Peak(m, s, y)
					control.Safe(m, s)
					control.Propose(m, s, x)
					for _, a := range some {
						control.Allowed(m, s, a)
						control.Next(m, s, a)
					}
				}
			}
			control.Print(some)
			control.Ramps([]int{x, y}, x)
		}
	}
}
