package control_test

import (
	"math"
	"math/rand"
	"slices"
	"testing"

	"nacelle/api"
	"nacelle/control"
)

// turning is the state of the chapter's second example.
func turning() control.State { return state("run", 14, -1, 0, 0, 0) }

func TestP52Example(t *testing.T) {
	peak, steps, e := control.Peak(m(), turning(), 0)
	check(t, "Peak", e, api.OK)
	check(t, "Peak", peak, 22)
	check(t, "Peak: steps", steps, 13)
	l, e := control.Stop(m(), turning(), 0)
	check(t, "Stop", e, api.OK)
	check(t, "Stop: states", len(l), 14)
	check(t, "Stop: the first state", l[0], state("stop", 14, 0, 0, 0, 0))
	check(t, "Stop: the second state", l[1], state("stop", 20, 0, 0, 2, 2))
	check(t, "Stop: the third state", l[2], state("stop", 22, 0, 0, 4, 4))
	check(t, "Stop: the fourth state", l[3], state("stop", 20, 0, 0, 6, 6))
	check(t, "Stop: the fifth state", l[4], state("stop", 18, 0, 0, 6, 6))
	check(t, "Stop: the last state", l[13], state("stop", 0, 0, 0, 6, 6))
	check(t, "CheckStop", control.CheckStop(m(), turning(), 0, l), api.OK)
}

func TestP52Stops(t *testing.T) {
	torque := state("run", 3, 1, 6, 0, 6)
	torque.Torque = 8
	for _, row := range []struct {
		s           control.State
		stuck       int
		peak, steps int
		last        control.State
	}{
		{state("idle", 0, -1, 6, 6, 6), -1, 0, 0, state("stop", 0, -1, 6, 6, 6)}, {state("idle", 0, -1, 6, 6, 6), 1, 0, 0, state("stop", 0, 1, 6, 6, 6)}, {state("idle", 0, 2, 6, 6, 6), -1, 0, 0, state("stop", 0, 2, 6, 6, 6)}, {state("idle", 0, 2, 6, 6, 0), 1, 0, 3, state("stop", 0, 1, 6, 6, 6)}, {state("idle", 0, 2, 6, 6, 0), 2, 0, 0, state("stop", 0, 2, 6, 6, 0)}, {state("idle", 0, 2, 6, 6, 1), -1, 0, 3, state("stop", 0, 2, 6, 6, 6)},
		{torque, -1, 3, 3, state("stop", 0, 1, 6, 6, 6)}, {torque, 1, 3, 2, state("stop", 0, 1, 6, 0, 6)}, {torque, 0, 3, 3, state("stop", 0, 0, 6, 6, 6)}, {state("stop", 0, -1, 0, 0, 0), 0, 8, 6, state("stop", 0, 0, 0, 6, 6)}, {state("stop", 0, -1, 0, 0, 0), -1, 4, 3, state("stop", 0, -1, 6, 6, 6)}, {state("run", 40, -1, 0, 0, 0), 0, 48, 26, state("stop", 0, 0, 0, 6, 6)}, {state("run", 40, -1, 6, 6, 6), 2, 40, 5, state("stop", 0, 2, 6, 6, 6)},
	} {
		peak, steps, e := control.Peak(m(), row.s, row.stuck)
		check(t, "Peak", e, api.OK)
		check(t, "Peak", peak, row.peak)
		check(t, "Peak: steps", steps, row.steps)
		l, e := control.Stop(m(), row.s, row.stuck)
		if row.peak > 40 {
			check(t, "Stop", e, api.ErrLarge)
			checkZero(t, "Stop", l)
			check(t, "CheckStop", control.CheckStop(m(), row.s, row.stuck, slowStop(m(), row.s, row.stuck)), api.ErrProof)
			continue
		}
		check(t, "Stop", e, api.OK)
		check(t, "Stop: states", len(l), row.steps+1)
		check(t, "Stop: the last state", l[len(l)-1], row.last)
	}
}

func TestP52LongStops(t *testing.T) {
	s := state("run", 1000, -1, 0, 0, 0)
	peak, steps, e := control.Peak(slowest(), s, 1)
	check(t, "Peak", e, api.OK)
	check(t, "the peak of a long stop", peak, 1000+49*99-49*50)
	check(t, "the steps of a long stop", steps, 49+1000+49*99-49*50)
	s = state("run", 0, -1, 50, 50, 50)
	s.Speed = 1000
	for _, pitch := range []int{0, 50} {
		s.Pitch[2] = pitch
		l, e := control.Stop(slowest(), s, 2)
		check(t, "Stop", e, api.OK)
		check(t, "the states of a long stop", len(l), map[int]int{0: 1001, 50: 21}[pitch])
		check(t, "CheckStop", control.CheckStop(slowest(), s, 2, l), api.OK)
	}
}

func TestP52CheckStop(t *testing.T) {
	l, _ := control.Stop(m(), turning(), 0)
	changed := func(at int, change func(s *control.State)) []control.State {
		out := slices.Clone(l)
		change(&out[at])
		return out
	}
	for _, row := range []struct {
		s     control.State
		stuck int
		l     []control.State
		e     api.Errno
	}{
		{turning(), 0, l, api.OK}, {turning(), 1, l, api.ErrProof}, {turning(), -1, l, api.ErrProof}, {state("stop", 14, 0, 0, 0, 0), 0, l, api.OK}, {state("stop", 14, 1, 0, 0, 0), 0, l, api.OK}, {state("stop", 13, 0, 0, 0, 0), 0, l, api.ErrProof},
		{turning(), 0, nil, api.ErrProof}, {turning(), 0, l[:13], api.ErrProof}, {turning(), 0, l[1:], api.ErrProof}, {turning(), 0, append(slices.Clone(l), l[13]), api.ErrProof}, {turning(), 0, append(slices.Clone(l[:1]), l...), api.ErrProof}, {turning(), 0, append([]control.State{turning()}, l[1:]...), api.ErrProof},
		{turning(), 0, changed(0, func(s *control.State) { s.Mode = "run" }), api.ErrProof}, {turning(), 0, changed(5, func(s *control.State) { s.Mode = "" }), api.ErrProof}, {turning(), 0, changed(13, func(s *control.State) { s.Speed = 1 }), api.ErrProof}, {turning(), 0, changed(3, func(s *control.State) { s.Pitch[2] = 5 }), api.ErrProof}, {turning(), 0, changed(3, func(s *control.State) { s.Torque = 1 }), api.ErrProof}, {turning(), 0, changed(0, func(s *control.State) { s.Stuck = -1 }), api.ErrProof}, {turning(), 0, changed(7, func(s *control.State) { s.Speed = math.MaxInt }), api.ErrProof},
		{turning(), 0, make([]control.State, 4096), api.ErrProof}, {turning(), 0, make([]control.State, 4097), api.ErrMany},
	} {
		check(t, "CheckStop", control.CheckStop(m(), row.s, row.stuck, row.l), row.e)
	}
}

func TestP52Errors(t *testing.T) {
	good := turning()
	many := make([]control.State, 4097)
	for _, row := range []struct {
		m     control.Machine
		s     control.State
		stuck int
		e     api.Errno
	}{
		{machine(12, 6, 2, 8, 40, 20, 1), state("", 0, 0, 0, 0, 0), -2, api.ErrInfeasible}, {machine(10, 6, 7, 8, 40, 20, 1), good, 0, api.ErrLarge}, {control.Machine{}, control.State{}, 0, api.ErrRange}, {m(), control.State{}, -2, api.ErrKind}, {m(), state("idle", 0, -1, 5, 5, 6), -2, api.ErrState}, {m(), state("run", 41, -1, 0, 0, 0), 0, api.ErrRange},
		{m(), good, -2, api.ErrRange}, {m(), good, 3, api.ErrRange}, {m(), state("run", 40, -1, 0, 0, 0), 3, api.ErrRange}, {m(), good, math.MinInt, api.ErrRange}, {m(), good, math.MaxInt, api.ErrRange},
	} {
		l, e := control.Stop(row.m, row.s, row.stuck)
		check(t, "Stop", e, row.e)
		checkZero(t, "Stop", l)
		peak, steps, e := control.Peak(row.m, row.s, row.stuck)
		check(t, "Peak", e, row.e)
		checkZero(t, "Peak", peak, steps)
		check(t, "CheckStop", control.CheckStop(row.m, row.s, row.stuck, many), row.e)
	}
}

func TestP52ErrorsWithoutABlade(t *testing.T) {
	for _, row := range []struct {
		m control.Machine
		s control.State
		e api.Errno
	}{
		{machine(12, 6, 2, 8, 40, 20, 1), state("", 0, 0, 0, 0, 0), api.ErrInfeasible}, {machine(10, 6, 7, 8, 40, 20, 1), turning(), api.ErrLarge}, {control.Machine{}, control.State{}, api.ErrRange}, {m(), control.State{}, api.ErrKind}, {m(), state("idle", 0, -1, 5, 5, 6), api.ErrState}, {m(), state("run", 41, -1, 0, 0, 0), api.ErrRange},
	} {
		safe, e := control.Safe(row.m, row.s)
		check(t, "Safe", e, row.e)
		checkZero(t, "Safe", safe)
		table, e := control.Table(row.m)
		check(t, "Table", e, control.CheckMachine(row.m))
		if e != api.OK {
			checkZero(t, "Table", table)
		}
	}
}

func TestP52Safe(t *testing.T) {
	for _, row := range []struct {
		s    control.State
		want bool
	}{
		{turning(), true}, {state("run", 32, -1, 0, 0, 0), true}, {state("run", 33, -1, 0, 0, 0), false}, {state("stop", 33, 1, 0, 0, 0), false}, {state("run", 40, -1, 2, 2, 2), true}, {state("run", 40, -1, 0, 6, 6), true}, {state("run", 37, -1, 1, 1, 1), true}, {state("run", 38, -1, 1, 1, 1), false}, {state("idle", 0, 2, 6, 6, 0), true},
		{state("run", 40, -1, 6, 0, 0), false}, {state("run", 40, -1, 0, 6, 0), false}, {state("run", 40, -1, 0, 0, 6), false}, {state("run", 40, 0, 6, 0, 0), true}, {state("run", 40, 1, 6, 0, 0), false}, {state("run", 40, 2, 6, 0, 0), false}, {state("run", 40, 1, 0, 6, 0), true}, {state("run", 40, 2, 0, 6, 0), false}, {state("run", 40, 2, 0, 0, 6), true}, {state("run", 40, 0, 0, 0, 6), false},
	} {
		got, e := control.Safe(m(), row.s)
		check(t, "Safe", e, api.OK)
		check(t, "Safe", got, row.want)
	}
}

func TestP52Table(t *testing.T) {
	rows := func(speeds ...int) []control.Row {
		var out []control.Row
		for angle, speed := range speeds {
			out = append(out, control.Row{Pitch: angle, Speed: speed})
		}
		return out
	}
	got, e := control.Table(m())
	check(t, "Table", e, api.OK)
	checkList(t, "Table", got, rows(32, 37, 40, 40, 40, 40, 40))
	got, e = control.Table(machine(10, 6, 2, 8, 7, 7, 1))
	check(t, "Table", e, api.OK)
	checkList(t, "the table without the angle 0", got, rows(0, 4, 7, 7, 7, 7, 7)[1:])
	got, e = control.Table(machine(10, 6, 2, 8, 8, 7, 1))
	check(t, "Table", e, api.OK)
	checkList(t, "the table with the speed 0", got, rows(0, 5, 8, 8, 8, 8, 8))
	got, e = control.Table(greatest())
	check(t, "Table", e, api.OK)
	check(t, "the rows of the greatest machine", len(got), 101)
	got, e = control.Table(machine(99, 50, 1, 0, 1, 1, 1))
	check(t, "Table", e, api.OK)
	check(t, "the first row with a slow machine", got[0].Pitch > 0 && got[len(got)-1] == control.Row{Pitch: 50, Speed: 1}, true)
}

func TestP52Otherwise(t *testing.T) {
	r := rand.New(rand.NewSource(2))
	for range 1000 {
		m := randomMachine(r)
		s, stuck := randomState(r, m), r.Intn(4)-1
		want := slowStop(m, s, stuck)
		peak, steps, e := control.Peak(m, s, stuck)
		check(t, "Peak", e, api.OK)
		check(t, "Peak", peak, slowPeak(m, s, stuck))
		check(t, "Peak: steps", steps, len(want)-1)
		l, e := control.Stop(m, s, stuck)
		if peak > m.Limit {
			check(t, "Stop", e, api.ErrLarge)
			check(t, "CheckStop", control.CheckStop(m, s, stuck, want), api.ErrProof)
		} else {
			check(t, "Stop", e, api.OK)
			checkList(t, "Stop", l, want)
			check(t, "CheckStop", control.CheckStop(m, s, stuck, l), api.OK)
		}
		safe, e := control.Safe(m, s)
		check(t, "Safe", e, api.OK)
		check(t, "Safe", safe, slowSafe(m, s))
	}
}

func TestP52TableOtherwise(t *testing.T) {
	r := rand.New(rand.NewSource(3))
	for range 60 {
		m := randomMachine(r)
		m.Limit = min(m.Limit, 60)
		m.Rated = min(m.Rated, m.Limit)
		var want []control.Row
		for angle := 0; angle <= m.Feather; angle++ {
			speed := m.Limit
			for speed >= 0 && !slowSafe(m, state("run", speed, -1, angle, angle, angle)) {
				speed--
			}
			if speed >= 0 {
				want = append(want, control.Row{Pitch: angle, Speed: speed})
			}
		}
		got, e := control.Table(m)
		check(t, "Table", e, api.OK)
		checkList(t, "Table", got, want)
	}
}
