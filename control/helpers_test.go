package control_test

import (
	"math/rand"
	"reflect"
	"slices"
	"testing"

	"nacelle/api"
	"nacelle/control"
)

// check reports a result that is not the expected one.
func check[T comparable](t *testing.T, what string, got, want T) {
	t.Helper()
	if got != want {
		t.Errorf("%s: got %v, want %v", what, got, want)
	}
}

// checkList reports a list that is not the expected one; empty lists are equal.
func checkList[T comparable](t *testing.T, what string, got, want []T) {
	t.Helper()
	if !slices.Equal(got, want) {
		t.Errorf("%s: got %v, want %v", what, got, want)
	}
}

// checkZero reports a result beside an error that is not the zero value.
func checkZero(t *testing.T, what string, results ...any) {
	t.Helper()
	for _, r := range results {
		v := reflect.ValueOf(r)
		if v.Kind() == reflect.Slice && v.Len() == 0 {
			continue
		}
		if !v.IsZero() {
			t.Errorf("%s: got %v beside an error", what, r)
		}
	}
}

// machine returns a machine by its numbers, in the order of its fields.
func machine(wind, feather, rate, torque, limit, rated, gain int) control.Machine {
	return control.Machine{Wind: wind, Feather: feather, Rate: rate, Torque: torque, Limit: limit, Rated: rated, Gain: gain}
}

// m is the machine of the chapter's examples, greatest one with the greatest numbers.
func m() control.Machine { return machine(10, 6, 2, 8, 40, 20, 1) }

func greatest() control.Machine { return machine(100, 100, 100, 100, 1000, 1000, 16) }

// slowest is the machine whose stops take most steps.
func slowest() control.Machine { return machine(99, 50, 1, 100, 1000, 1, 16) }

// state returns a state without a torque.
func state(mode string, speed, stuck int, pitches ...int) control.State {
	return control.State{Mode: mode, Speed: speed, Pitch: [3]int(pitches), Stuck: stuck}
}

// act returns an act with all its numbers.
func act(kind string, wind, pitch, torque, stuck int) control.Act {
	return control.Act{Kind: kind, Wind: wind, Pitch: pitch, Torque: torque, Stuck: stuck}
}

// bare returns an act that has a kind alone.
func bare(kind string) control.Act { return act(kind, 0, 0, 0, -1) }

// tick and brake return acts in the machine of the chapter's examples.
func tick(wind, pitch, torque, stuck int) control.Act { return act("tick", wind, pitch, torque, stuck) }

func brake(wind, stuck int) control.Act { return act("brake", wind, 0, 0, stuck) }

// history is that of the chapter's first example.
func history() []control.Act {
	return []control.Act{bare("start"), tick(10, 0, 0, -1), tick(10, 0, 0, -1), tick(10, 0, 0, -1)}
}

// number returns a random number, often one of the ends.
func number(r *rand.Rand, least, most int) int {
	switch r.Intn(6) {
	case 0:
		return least
	case 1:
		return most
	}
	return least + r.Intn(most-least+1)
}

// randomMachine returns a machine with numbers up to those of the greatest one, or small ones.
func randomMachine(r *rand.Rand) control.Machine {
	most, limit := 100, 1000
	if r.Intn(2) == 0 {
		most, limit = 8, 40
	}
	feather := number(r, 1, most)
	out := machine(number(r, 1, min(2*feather-1, most)), feather, number(r, 1, feather), number(r, 0, most), number(r, 1, limit), 0, number(r, 1, 16))
	out.Rated = number(r, 1, out.Limit)
	return out
}

// randomState returns a state of a machine, in any mode.
func randomState(r *rand.Rand, m control.Machine) control.State {
	out := state([]string{"idle", "run", "run", "stop"}[r.Intn(4)], number(r, 0, m.Limit), r.Intn(4)-1, number(r, 0, m.Feather), number(r, 0, m.Feather), number(r, 0, m.Feather))
	switch out.Mode {
	case "idle":
		pitch := out.Pitch[0]
		out.Speed, out.Pitch = 0, [3]int{m.Feather, m.Feather, m.Feather}
		out.Pitch[r.Intn(3)] = pitch
	case "run":
		out.Torque = number(r, 0, m.Torque)
	case "stop":
		if r.Intn(3) == 0 {
			out.Speed, out.Pitch = 0, [3]int{m.Feather, m.Feather, out.Pitch[2]}
		}
	}
	return out
}

// randomAct returns an act of a machine, of any kind.
func randomAct(r *rand.Rand, m control.Machine) control.Act {
	switch kind := []string{"brake", "repair", "rest", "start", "stop", "tick", "tick", "brake"}[r.Intn(8)]; kind {
	case "tick":
		return tick(number(r, 0, m.Wind), number(r, 0, m.Feather), number(r, 0, m.Torque), max(r.Intn(7)-4, -1))
	case "brake":
		return brake(number(r, 0, m.Wind), max(r.Intn(7)-4, -1))
	default:
		return bare(kind)
	}
}

// randomHistory returns a history of at most so many acts, with the state behind it.
func randomHistory(r *rand.Rand, m control.Machine, most int) ([]control.Act, control.State) {
	var out []control.Act
	at, _ := control.Begin(m)
	for range most {
		a := randomAct(r, m)
		if r.Intn(2) == 0 {
			a, _ = control.Propose(m, at, r.Intn(m.Wind+1))
		}
		if next, e := control.Next(m, at, a); e == api.OK {
			at = next
			out = append(out, a)
		}
	}
	return out, at
}

// slowStop returns the states of a stop: behind k steps each blade that moves has come k times Rate nearer to Feather.
func slowStop(m control.Machine, s control.State, stuck int) []control.State {
	before := control.State{Mode: "stop", Speed: s.Speed, Pitch: s.Pitch, Stuck: s.Stuck}
	if stuck >= 0 {
		before.Stuck = stuck
	}
	out := []control.State{before}
	for k := 1; ; k++ {
		last := out[len(out)-1]
		over := last.Speed == 0
		for blade, pitch := range last.Pitch {
			over = over && (blade == stuck || pitch == m.Feather)
		}
		if over {
			return out
		}
		sum := 0
		for blade, pitch := range s.Pitch {
			if blade != stuck {
				pitch = min(pitch+k*m.Rate, m.Feather)
			}
			sum += pitch
			last.Pitch[blade] = pitch
		}
		if last.Speed += m.Wind - sum; last.Speed < 0 {
			last.Speed = 0
		}
		out = append(out, last)
	}
}

// slowPeak returns the peak of a stop.
func slowPeak(m control.Machine, s control.State, stuck int) int {
	peak := 0
	for _, x := range slowStop(m, s, stuck) {
		peak = max(peak, x.Speed)
	}
	return peak
}

// slowSafe reports whether a state is safe.
func slowSafe(m control.Machine, s control.State) bool {
	for blade := range 3 {
		if (s.Stuck == -1 || s.Stuck == blade) && slowPeak(m, s, blade) > m.Limit {
			return false
		}
	}
	return true
}

// slowNext returns the state behind an act, also if a rule forbids it.
func slowNext(m control.Machine, s control.State, a control.Act) control.State {
	towards, torque := a.Pitch, a.Torque
	switch a.Kind {
	case "start":
		s.Mode = "run"
		return s
	case "stop":
		s.Mode, s.Torque = "stop", 0
		return s
	case "rest":
		s.Mode = "idle"
		return s
	case "repair":
		return control.State{Mode: s.Mode, Speed: s.Speed, Torque: s.Torque, Pitch: [3]int{m.Feather, m.Feather, m.Feather}, Stuck: -1}
	case "brake":
		s.Mode, towards, torque = "stop", m.Feather, 0
	}
	speed := s.Speed + a.Wind - torque
	for blade := range s.Pitch {
		if blade != a.Stuck {
			for range m.Rate {
				if s.Pitch[blade] < towards {
					s.Pitch[blade]++
				} else if s.Pitch[blade] > towards {
					s.Pitch[blade]--
				}
			}
		}
		speed -= s.Pitch[blade]
	}
	s.Speed, s.Torque = max(speed, 0), torque
	if a.Stuck != -1 {
		s.Stuck = a.Stuck
	}
	return s
}

// slowRule returns the number of the rule that forbids an act, or 0, rule by rule.
func slowRule(m control.Machine, s control.State, a control.Act) int {
	feathered := 0
	for _, pitch := range s.Pitch {
		if pitch == m.Feather {
			feathered++
		}
	}
	is := func(kinds ...string) bool { return slices.Contains(kinds, a.Kind) }
	next := slowNext(m, s, a)
	switch {
	case is("start", "repair") && s.Mode != "idle":
		return 1
	case is("tick", "stop") && s.Mode != "run":
		return 2
	case is("brake", "rest") && s.Mode != "stop":
		return 3
	case is("start") && (feathered < 3 || s.Stuck != -1):
		return 4
	case is("rest") && (s.Speed > 0 || feathered < 2):
		return 5
	case is("tick", "brake") && a.Stuck != -1 && s.Stuck != -1 && s.Stuck != a.Stuck:
		return 6
	case is("tick", "brake") && next.Speed > m.Limit, is("tick") && !slowSafe(m, next):
		return 7
	}
	return 0
}

// slowPropose returns the proposal in a wind, with a quotient that is counted.
func slowPropose(m control.Machine, s control.State, wind int) control.Act {
	switch s.Mode {
	case "idle":
		if slowRule(m, s, bare("start")) == 4 {
			return bare("repair")
		}
		return bare("start")
	case "stop":
		if slowRule(m, s, bare("rest")) == 0 {
			return bare("rest")
		}
		return brake(wind, s.Stuck)
	}
	a := tick(wind, 0, 0, s.Stuck)
	for a.Pitch < m.Feather && a.Pitch < m.Gain*(s.Speed-m.Rated) {
		a.Pitch++
	}
	for a.Torque < m.Torque && (a.Torque+1)*m.Rated <= m.Torque*s.Speed {
		a.Torque++
	}
	if slowRule(m, s, a) == 0 {
		return a
	}
	if a.Pitch = m.Feather; slowRule(m, s, a) == 0 {
		return a
	}
	return bare("stop")
}
