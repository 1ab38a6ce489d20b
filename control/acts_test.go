package control_test

import (
	"math"
	"math/rand"
	"testing"

	"nacelle/api"
	"nacelle/control"
)

// fast is the state of the chapter's fourth example.
func fast() control.State { return state("run", 30, -1, 0, 0, 0) }

func TestP53Rules(t *testing.T) {
	resting, still := state("idle", 0, -1, 6, 6, 6), state("stop", 0, -1, 6, 6, 6)
	for _, row := range []struct {
		s    control.State
		a    control.Act
		want int
	}{
		{resting, bare("start"), 0}, {resting, bare("repair"), 0}, {resting, bare("stop"), 2}, {resting, tick(0, 6, 0, -1), 2}, {resting, brake(0, -1), 3}, {resting, bare("rest"), 3},
		{turning(), bare("start"), 1}, {turning(), bare("repair"), 1}, {turning(), bare("stop"), 0}, {turning(), tick(0, 6, 0, -1), 0}, {turning(), brake(0, -1), 3}, {turning(), bare("rest"), 3},
		{still, bare("start"), 1}, {still, bare("repair"), 1}, {still, bare("stop"), 2}, {still, tick(0, 6, 0, -1), 2}, {still, brake(0, -1), 0}, {still, bare("rest"), 0},
		{state("idle", 0, -1, 5, 6, 6), bare("start"), 4}, {state("idle", 0, -1, 6, 5, 6), bare("start"), 4}, {state("idle", 0, -1, 6, 6, 0), bare("start"), 4}, {state("idle", 0, 0, 6, 6, 6), bare("start"), 4}, {state("idle", 0, 2, 6, 6, 0), bare("start"), 4}, {state("idle", 0, 2, 6, 6, 0), bare("repair"), 0}, {state("run", 0, 2, 6, 6, 0), bare("start"), 1},
		{state("stop", 1, -1, 6, 6, 6), bare("rest"), 5}, {state("stop", 0, -1, 6, 5, 6), bare("rest"), 0}, {state("stop", 0, 1, 5, 6, 6), bare("rest"), 0}, {state("stop", 0, -1, 6, 6, 0), bare("rest"), 0}, {state("stop", 0, -1, 5, 5, 6), bare("rest"), 5}, {state("stop", 0, 1, 5, 6, 5), bare("rest"), 5}, {state("stop", 0, -1, 0, 0, 0), bare("rest"), 5}, {state("run", 1, -1, 6, 6, 6), bare("rest"), 3},
		{state("run", 0, 0, 6, 6, 6), tick(0, 6, 0, 1), 6}, {state("run", 0, 0, 6, 6, 6), tick(0, 6, 0, 0), 0}, {state("run", 0, 0, 6, 6, 6), tick(0, 6, 0, -1), 0}, {state("run", 0, -1, 6, 6, 6), tick(0, 6, 0, 2), 0}, {state("stop", 0, 2, 6, 6, 6), brake(0, 0), 6}, {state("stop", 0, 2, 6, 6, 6), brake(0, 2), 0}, {state("stop", 0, 2, 6, 6, 6), brake(0, -1), 0}, {state("stop", 0, -1, 6, 6, 6), brake(0, 0), 0}, {state("run", 40, 0, 0, 0, 0), tick(10, 0, 0, 1), 6}, {state("stop", 40, 0, 0, 0, 0), brake(10, 1), 6}, {still, tick(0, 6, 0, 1), 2},
		{fast(), tick(10, 0, 0, -1), 7}, {fast(), tick(10, 0, 8, -1), 0}, {fast(), tick(10, 0, 7, -1), 7}, {fast(), tick(2, 0, 0, -1), 0}, {fast(), tick(3, 0, 0, -1), 7}, {fast(), tick(10, 6, 0, -1), 0}, {fast(), tick(10, 6, 0, 1), 0}, {state("run", 38, -1, 0, 0, 0), tick(10, 0, 8, 2), 7}, {state("run", 40, -1, 0, 0, 0), tick(1, 0, 0, -1), 7},
		{state("stop", 40, -1, 0, 0, 0), brake(10, -1), 7}, {state("stop", 40, -1, 0, 0, 0), brake(6, -1), 0}, {state("stop", 40, -1, 0, 0, 0), brake(7, -1), 7}, {state("stop", 40, -1, 0, 0, 0), brake(4, 1), 0}, {state("stop", 40, -1, 0, 0, 0), brake(5, 1), 7},
		{state("stop", 39, -1, 0, 0, 0), brake(5, 1), 0}, {state("run", 0, 0, 6, 6, 6), tick(10, 0, 0, 0), 0},
	} {
		got, e := control.Allowed(m(), row.s, row.a)
		check(t, "Allowed", e, api.OK)
		if got != row.want {
			t.Errorf("Allowed %v in %v: got %v, want %v", row.a, row.s, got, row.want)
		}
		next, e := control.Next(m(), row.s, row.a)
		if row.want > 0 {
			check(t, "Next", e, api.ErrRule)
			checkZero(t, "Next", next)
		} else {
			check(t, "Next", e, api.OK)
			check(t, "Next", next, slowNext(m(), row.s, row.a))
		}
	}
}

func TestP53Next(t *testing.T) {
	torque := state("run", 30, -1, 4, 5, 6)
	torque.Torque = 8
	with := func(torque int, s control.State) control.State {
		s.Torque = torque
		return s
	}
	for _, row := range []struct {
		s    control.State
		a    control.Act
		want control.State
	}{
		{state("idle", 0, -1, 6, 6, 6), bare("start"), state("run", 0, -1, 6, 6, 6)}, {state("idle", 0, 1, 6, 0, 6), bare("repair"), state("idle", 0, -1, 6, 6, 6)}, {state("idle", 0, 1, 6, 6, 6), bare("repair"), state("idle", 0, -1, 6, 6, 6)}, {state("idle", 0, -1, 6, 6, 6), bare("repair"), state("idle", 0, -1, 6, 6, 6)},
		{torque, bare("stop"), state("stop", 30, -1, 4, 5, 6)}, {state("stop", 0, 2, 6, 6, 1), bare("rest"), state("idle", 0, 2, 6, 6, 1)}, {state("stop", 14, -1, 0, 0, 0), brake(10, 0), state("stop", 20, 0, 0, 2, 2)}, {state("stop", 14, 2, 0, 0, 0), brake(0, -1), state("stop", 8, 2, 2, 2, 2)},
		{fast(), tick(10, 0, 8, -1), with(8, state("run", 32, -1, 0, 0, 0))}, {torque, tick(10, 0, 0, -1), state("run", 31, -1, 2, 3, 4)}, {torque, tick(10, 5, 3, 2), with(3, state("run", 21, 2, 5, 5, 6))}, {torque, tick(10, 5, 3, -1), with(3, state("run", 22, -1, 5, 5, 5))}, {torque, tick(0, 0, 5, 0), with(5, state("run", 14, 0, 4, 3, 4))}, {state("run", 4, 1, 6, 0, 6), tick(7, 6, 0, -1), state("run", 0, 1, 6, 2, 6)}, {state("run", 6, 1, 6, 0, 6), tick(7, 6, 0, 1), state("run", 1, 1, 6, 0, 6)},
	} {
		got, e := control.Next(m(), row.s, row.a)
		check(t, "Next", e, api.OK)
		check(t, "Next", got, row.want)
	}
}

func TestP53Errors(t *testing.T) {
	for _, row := range []struct {
		m control.Machine
		s control.State
		a control.Act
		e api.Errno
	}{
		{machine(12, 6, 2, 8, 40, 20, 1), control.State{}, control.Act{}, api.ErrInfeasible}, {machine(10, 6, 2, 8, 40, 20, 0), turning(), bare("stop"), api.ErrRange}, {m(), control.State{}, act("x", 0, 0, 0, -2), api.ErrKind}, {m(), state("run", 41, -1, 0, 0, 0), bare("x"), api.ErrRange}, {m(), state("idle", 1, -1, 6, 6, 6), bare("x"), api.ErrState}, {m(), turning(), bare("x"), api.ErrKind}, {m(), turning(), tick(11, 0, 0, -1), api.ErrRange}, {m(), turning(), tick(0, 7, 0, -1), api.ErrRange}, {m(), turning(), act("rest", 0, 0, 0, 0), api.ErrShape}, {m(), turning(), act("start", 1, 0, 0, -1), api.ErrShape}, {m(), turning(), tick(math.MaxInt, 0, 0, -1), api.ErrRange}, {m(), turning(), tick(0, 0, math.MinInt, -1), api.ErrRange},
	} {
		number, e := control.Allowed(row.m, row.s, row.a)
		check(t, "Allowed", e, row.e)
		checkZero(t, "Allowed", number)
		next, e := control.Next(row.m, row.s, row.a)
		check(t, "Next", e, row.e)
		checkZero(t, "Next", next)
	}
	for _, row := range []struct {
		m    control.Machine
		s    control.State
		wind int
		e    api.Errno
	}{
		{machine(12, 6, 2, 8, 40, 20, 1), control.State{}, -1, api.ErrInfeasible}, {m(), control.State{}, -1, api.ErrKind}, {m(), state("stop", 0, 3, 6, 6, 6), 0, api.ErrRange}, {m(), state("idle", 0, -1, 5, 5, 5), -1, api.ErrState}, {m(), turning(), -1, api.ErrRange}, {m(), turning(), 11, api.ErrRange}, {m(), state("idle", 0, -1, 6, 6, 6), 11, api.ErrRange}, {m(), turning(), math.MaxInt, api.ErrRange}, {m(), turning(), math.MinInt, api.ErrRange},
	} {
		a, e := control.Propose(row.m, row.s, row.wind)
		check(t, "Propose", e, row.e)
		checkZero(t, "Propose", a)
	}
}

func TestP53Propose(t *testing.T) {
	stubborn := machine(10, 6, 2, 8, 40, 20, 16)
	for _, row := range []struct {
		m    control.Machine
		s    control.State
		wind int
		want control.Act
	}{
		{m(), state("idle", 0, -1, 6, 6, 6), 10, bare("start")}, {m(), state("idle", 0, 0, 6, 6, 6), 10, bare("repair")}, {m(), state("idle", 0, -1, 6, 6, 5), 0, bare("repair")}, {m(), state("idle", 0, 2, 6, 6, 5), 0, bare("repair")},
		{m(), state("stop", 0, -1, 6, 6, 6), 10, bare("rest")}, {m(), state("stop", 0, 1, 6, 0, 6), 10, bare("rest")}, {m(), state("stop", 1, 1, 6, 0, 6), 10, brake(10, 1)}, {m(), state("stop", 0, -1, 6, 0, 5), 3, brake(3, -1)}, {m(), state("stop", 40, -1, 0, 0, 0), 10, brake(10, -1)}, {m(), state("stop", 40, 2, 0, 0, 0), 10, brake(10, 2)},
		{m(), state("run", 24, -1, 4, 4, 4), 10, tick(10, 4, 8, -1)}, {m(), state("run", 20, -1, 4, 4, 4), 10, tick(10, 0, 8, -1)}, {m(), state("run", 19, 1, 4, 4, 4), 7, tick(7, 0, 7, 1)}, {m(), state("run", 0, -1, 6, 6, 6), 0, tick(0, 0, 0, -1)}, {m(), state("run", 2, -1, 6, 6, 6), 0, tick(0, 0, 0, -1)}, {m(), state("run", 3, -1, 6, 6, 6), 0, tick(0, 0, 1, -1)}, {m(), state("run", 26, -1, 4, 4, 4), 10, tick(10, 6, 8, -1)}, {m(), state("run", 40, -1, 6, 6, 6), 10, tick(10, 6, 8, -1)},
		{stubborn, state("run", 21, 0, 4, 4, 4), 0, tick(0, 6, 8, 0)}, {stubborn, state("run", 20, 0, 4, 4, 4), 0, tick(0, 0, 8, 0)},
		{m(), state("run", 40, -1, 0, 0, 0), 10, tick(10, 6, 8, -1)}, {m(), state("run", 40, 1, 0, 0, 0), 10, tick(10, 6, 8, 1)}, {machine(10, 6, 2, 0, 40, 20, 1), state("run", 40, -1, 0, 0, 0), 10, bare("stop")}, {machine(10, 6, 2, 0, 40, 20, 1), state("run", 40, 1, 0, 0, 0), 10, bare("stop")},
		{machine(10, 6, 1, 8, 30, 30, 1), state("run", 27, -1, 2, 2, 2), 10, tick(10, 6, 7, -1)}, {machine(10, 6, 1, 0, 30, 30, 1), state("run", 27, -1, 2, 2, 2), 10, tick(10, 6, 0, -1)}, {machine(10, 6, 1, 0, 30, 30, 1), state("run", 30, -1, 2, 2, 2), 10, bare("stop")},
	} {
		got, e := control.Propose(row.m, row.s, row.wind)
		check(t, "Propose", e, api.OK)
		if got != row.want {
			t.Errorf("Propose in %v: got %v, want %v", row.s, got, row.want)
		}
	}
	next, e := control.Next(m(), state("run", 24, -1, 4, 4, 4), tick(10, 4, 8, -1))
	check(t, "Next", e, api.OK)
	check(t, "the speed behind a proposal", next.Speed, 14)
}

func TestP53Otherwise(t *testing.T) {
	r := rand.New(rand.NewSource(4))
	told := map[int]int{}
	proposed := map[string]int{}
	for range 4000 {
		m := randomMachine(r)
		s, a := randomState(r, m), randomAct(r, m)
		want := slowRule(m, s, a)
		told[want]++
		got, e := control.Allowed(m, s, a)
		check(t, "Allowed", e, api.OK)
		check(t, "Allowed", got, want)
		next, e := control.Next(m, s, a)
		if want > 0 {
			check(t, "Next", e, api.ErrRule)
		} else {
			check(t, "Next", e, api.OK)
			check(t, "Next", next, slowNext(m, s, a))
		}
		wind := number(r, 0, m.Wind)
		proposal, e := control.Propose(m, s, wind)
		check(t, "Propose", e, api.OK)
		check(t, "Propose", proposal, slowPropose(m, s, wind))
		proposed[proposal.Kind]++
	}
	check(t, "rules that were told", len(told), 8)
	check(t, "kinds that were proposed", len(proposed), 6)
}
