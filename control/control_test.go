package control_test

import (
	"math"
	"math/rand"
	"testing"

	"nacelle/api"
	"nacelle/control"
)

func TestP51Kinds(t *testing.T) {
	kinds := []string{"brake", "repair", "rest", "start", "stop", "tick"}
	got := control.Kinds()
	checkList(t, "Kinds", got, kinds)
	got[0] = "x"
	checkList(t, "Kinds again", control.Kinds(), kinds)
}

func TestP51Machines(t *testing.T) {
	for _, row := range []struct {
		m control.Machine
		e api.Errno
	}{
		{m(), api.OK}, {greatest(), api.OK}, {slowest(), api.OK}, {machine(1, 1, 1, 0, 1, 1, 1), api.OK}, {control.Machine{}, api.ErrRange},
		{machine(0, 6, 2, 8, 40, 20, 1), api.ErrRange}, {machine(101, 60, 2, 8, 40, 20, 1), api.ErrRange}, {machine(100, 51, 2, 8, 40, 20, 1), api.OK},
		{machine(10, 0, 2, 8, 40, 20, 1), api.ErrRange}, {machine(10, 101, 2, 8, 40, 20, 1), api.ErrRange},
		{machine(10, 6, 0, 8, 40, 20, 1), api.ErrRange}, {machine(10, 6, 101, 8, 40, 20, 1), api.ErrRange}, {machine(10, 6, 100, 8, 40, 20, 1), api.ErrLarge}, {machine(10, 6, 7, 8, 40, 20, 1), api.ErrLarge}, {machine(10, 6, 6, 8, 40, 20, 1), api.OK},
		{machine(10, 6, 2, -1, 40, 20, 1), api.ErrRange}, {machine(10, 6, 2, 101, 40, 20, 1), api.ErrRange},
		{machine(10, 6, 2, 8, 0, 20, 1), api.ErrRange}, {machine(10, 6, 2, 8, 1001, 20, 1), api.ErrRange},
		{machine(10, 6, 2, 8, 40, 0, 1), api.ErrRange}, {machine(10, 6, 2, 8, 40, 1001, 1), api.ErrRange}, {machine(10, 6, 2, 8, 40, 1000, 1), api.ErrLarge}, {machine(10, 6, 2, 8, 40, 41, 1), api.ErrLarge}, {machine(10, 6, 2, 8, 40, 40, 1), api.OK},
		{machine(10, 6, 2, 8, 40, 20, 0), api.ErrRange}, {machine(10, 6, 2, 8, 40, 20, 17), api.ErrRange}, {machine(10, 6, 7, 8, 40, 20, 17), api.ErrRange}, {machine(10, 6, 2, 8, 40, 41, 0), api.ErrRange},
		{machine(12, 6, 2, 8, 40, 20, 1), api.ErrInfeasible}, {machine(11, 6, 2, 8, 40, 20, 1), api.OK}, {machine(12, 6, 7, 8, 40, 20, 1), api.ErrLarge}, {machine(12, 6, 2, 8, 40, 41, 1), api.ErrLarge}, {machine(100, 50, 2, 8, 40, 20, 1), api.ErrInfeasible}, {machine(12, 6, 2, 8, 40, 20, 0), api.ErrRange},
		{machine(math.MinInt, 6, 2, 8, 40, 20, 1), api.ErrRange}, {machine(10, math.MaxInt, 2, 8, 40, 20, 1), api.ErrRange},
	} {
		check(t, "CheckMachine", control.CheckMachine(row.m), row.e)
		first, e := control.Begin(row.m)
		check(t, "Begin", e, row.e)
		if e != api.OK {
			checkZero(t, "Begin", first)
		}
		state := control.CheckState(row.m, control.State{})
		act := control.CheckAct(row.m, control.Act{})
		if row.e != api.OK {
			check(t, "CheckState", state, row.e)
			check(t, "CheckAct", act, row.e)
		} else {
			check(t, "CheckState", state, api.ErrKind)
			check(t, "CheckAct", act, api.ErrKind)
		}
	}
}

func TestP51States(t *testing.T) {
	torque := func(n int, s control.State) control.State {
		s.Torque = n
		return s
	}
	for _, row := range []struct {
		s control.State
		e api.Errno
	}{
		{state("idle", 0, -1, 6, 6, 6), api.OK}, {state("run", 0, -1, 0, 0, 0), api.OK}, {torque(8, state("run", 40, 2, 6, 0, 6)), api.OK}, {state("stop", 40, 0, 0, 0, 0), api.OK},
		{state("", 0, -1, 6, 6, 6), api.ErrKind}, {state("Run", -1, -2, 7, 6, 6), api.ErrKind}, {state("tick", 0, -1, 6, 6, 6), api.ErrKind}, {state("running", 0, -1, 6, 6, 6), api.ErrKind},
		{state("run", -1, -1, 6, 6, 6), api.ErrRange}, {state("run", 41, -1, 6, 6, 6), api.ErrRange}, {state("run", 0, -1, -1, 6, 6), api.ErrRange}, {state("run", 0, -1, 7, 6, 6), api.ErrRange}, {state("run", 0, -1, 6, 7, 6), api.ErrRange}, {state("run", 0, -1, 6, 6, 7), api.ErrRange}, {state("run", 0, -1, 6, 6, -1), api.ErrRange},
		{torque(-1, state("run", 0, -1, 6, 6, 6)), api.ErrRange}, {torque(9, state("run", 0, -1, 6, 6, 6)), api.ErrRange}, {state("run", 0, -2, 6, 6, 6), api.ErrRange}, {state("run", 0, 3, 6, 6, 6), api.ErrRange},
		{state("idle", 1, -1, 6, 6, 6), api.ErrState}, {torque(1, state("idle", 0, -1, 6, 6, 6)), api.ErrState}, {state("idle", 0, -1, 6, 5, 5), api.ErrState}, {state("idle", 0, -1, 5, 5, 6), api.ErrState}, {state("idle", 0, -1, 0, 0, 0), api.ErrState},
		{state("idle", 0, -1, 0, 6, 6), api.OK}, {state("idle", 0, 2, 6, 0, 6), api.OK}, {state("idle", 0, 0, 6, 6, 5), api.OK}, {state("idle", 0, 1, 6, 6, 6), api.OK},
		{torque(1, state("stop", 0, -1, 6, 6, 6)), api.ErrState}, {torque(9, state("stop", 0, -1, 6, 6, 6)), api.ErrRange}, {state("idle", 1, 3, 6, 6, 6), api.ErrRange}, {state("idle", 1, -1, 7, 6, 6), api.ErrRange}, {torque(1, state("stop", 0, 3, 6, 6, 6)), api.ErrRange},
		{state("run", math.MinInt, -1, 6, 6, 6), api.ErrRange}, {state("run", math.MaxInt, -1, 6, 6, 6), api.ErrRange}, {state("run", 0, math.MinInt, 6, 6, 6), api.ErrRange},
	} {
		check(t, "CheckState", control.CheckState(m(), row.s), row.e)
	}
	check(t, "CheckState of the greatest machine", control.CheckState(greatest(), torque(100, state("run", 1000, 2, 100, 100, 100))), api.OK)
}

func TestP51Acts(t *testing.T) {
	for _, row := range []struct {
		a control.Act
		e api.Errno
	}{
		{tick(0, 0, 0, -1), api.OK}, {tick(10, 6, 8, 2), api.OK}, {brake(0, -1), api.OK}, {brake(10, 2), api.OK}, {bare("repair"), api.OK}, {bare("rest"), api.OK}, {bare("start"), api.OK}, {bare("stop"), api.OK},
		{bare(""), api.ErrKind}, {act("Tick", -1, -1, -1, -2), api.ErrKind}, {bare("idle"), api.ErrKind}, {bare("run"), api.ErrKind},
		{tick(-1, 0, 0, -1), api.ErrRange}, {tick(11, 0, 0, -1), api.ErrRange}, {tick(0, -1, 0, -1), api.ErrRange}, {tick(0, 7, 0, -1), api.ErrRange}, {tick(0, 0, -1, -1), api.ErrRange}, {tick(0, 0, 9, -1), api.ErrRange}, {tick(0, 0, 0, -2), api.ErrRange}, {tick(0, 0, 0, 3), api.ErrRange},
		{brake(11, -1), api.ErrRange}, {brake(0, 3), api.ErrRange}, {act("brake", 0, 1, 0, -1), api.ErrShape}, {act("brake", 0, 0, 1, -1), api.ErrShape}, {act("brake", 0, 7, 1, -1), api.ErrRange}, {act("brake", 1, 1, 0, 3), api.ErrRange}, {act("brake", 5, 1, 1, 2), api.ErrShape},
		{act("repair", 1, 0, 0, -1), api.ErrShape}, {act("repair", 0, 1, 0, -1), api.ErrShape}, {act("repair", 0, 0, 1, -1), api.ErrShape}, {act("repair", 0, 0, 0, 0), api.ErrShape},
		{act("rest", 1, 0, 0, -1), api.ErrShape}, {act("rest", 0, 1, 0, -1), api.ErrShape}, {act("rest", 0, 0, 1, -1), api.ErrShape}, {act("rest", 0, 0, 0, 1), api.ErrShape},
		{act("start", 1, 0, 0, -1), api.ErrShape}, {act("start", 0, 1, 0, -1), api.ErrShape}, {act("start", 0, 0, 1, -1), api.ErrShape}, {act("start", 0, 0, 0, 2), api.ErrShape},
		{act("stop", 1, 0, 0, -1), api.ErrShape}, {act("stop", 0, 1, 0, -1), api.ErrShape}, {act("stop", 0, 0, 1, -1), api.ErrShape}, {act("stop", 0, 0, 0, 0), api.ErrShape},
		{act("stop", 11, 0, 0, -1), api.ErrRange}, {act("start", 1, 0, 0, 3), api.ErrRange}, {act("rest", 1, 0, 9, -1), api.ErrRange}, {tick(math.MinInt, 0, 0, -1), api.ErrRange}, {tick(0, math.MaxInt, 0, -1), api.ErrRange}, {tick(0, 0, 0, math.MaxInt), api.ErrRange},
	} {
		check(t, "CheckAct", control.CheckAct(m(), row.a), row.e)
	}
	check(t, "CheckAct of the greatest machine", control.CheckAct(greatest(), tick(100, 100, 100, 2)), api.OK)
}

func TestP51Begin(t *testing.T) {
	for _, m := range []control.Machine{m(), greatest(), slowest()} {
		got, e := control.Begin(m)
		check(t, "Begin", e, api.OK)
		check(t, "Begin", got, state("idle", 0, -1, m.Feather, m.Feather, m.Feather))
	}
}

func TestP51Braked(t *testing.T) {
	torque := state("run", 20, -1, 1, 5, 6)
	torque.Torque = 8
	for _, row := range []struct {
		s           control.State
		wind, stuck int
		want        control.State
	}{
		{state("run", 14, -1, 0, 0, 0), 10, 0, state("stop", 20, 0, 0, 2, 2)}, {state("stop", 20, 0, 0, 2, 2), 10, 0, state("stop", 22, 0, 0, 4, 4)}, {state("stop", 14, -1, 0, 0, 0), 10, -1, state("stop", 18, -1, 2, 2, 2)}, {state("run", 14, -1, 0, 0, 0), 0, 1, state("stop", 10, 1, 2, 0, 2)}, {state("run", 14, -1, 0, 0, 0), 10, 2, state("stop", 20, 2, 2, 2, 0)},
		{torque, 3, -1, state("stop", 8, -1, 3, 6, 6)}, {state("run", 8, 1, 6, 0, 6), 4, -1, state("stop", 0, 1, 6, 2, 6)}, {state("run", 9, 1, 6, 0, 6), 4, 2, state("stop", 0, 2, 6, 2, 6)}, {state("run", 11, 1, 6, 0, 6), 4, 1, state("stop", 3, 1, 6, 0, 6)}, {state("idle", 0, 1, 6, 0, 6), 10, -1, state("stop", 0, 1, 6, 2, 6)}, {state("idle", 0, -1, 6, 0, 6), 10, 1, state("stop", 0, 1, 6, 0, 6)}, {state("run", 34, -1, 0, 0, 0), 10, 0, state("stop", 40, 0, 0, 2, 2)},
	} {
		got, e := control.Braked(m(), row.s, row.wind, row.stuck)
		check(t, "Braked", e, api.OK)
		check(t, "Braked", got, row.want)
	}
}

func TestP51BrakedErrors(t *testing.T) {
	good, bad := state("run", 14, -1, 0, 0, 0), state("run", 41, -1, 0, 0, 0)
	for _, row := range []struct {
		m           control.Machine
		s           control.State
		wind, stuck int
		e           api.Errno
	}{
		{machine(12, 6, 2, 8, 40, 20, 1), state("", 0, 0, 0, 0, 0), -1, -2, api.ErrInfeasible}, {m(), state("", 0, 0, 0, 0, 0), -1, -2, api.ErrKind}, {m(), bad, -1, -2, api.ErrRange}, {m(), state("idle", 1, -1, 6, 6, 6), -1, -2, api.ErrState},
		{m(), good, -1, 0, api.ErrRange}, {m(), good, 11, 0, api.ErrRange}, {m(), good, 0, -2, api.ErrRange}, {m(), good, 0, 3, api.ErrRange}, {m(), state("run", 40, -1, 0, 0, 0), 10, 3, api.ErrRange}, {m(), state("run", 40, -1, 0, 0, 0), 11, 1, api.ErrRange}, {m(), state("run", 35, -1, 0, 0, 0), 10, 0, api.ErrLarge}, {m(), state("run", 40, -1, 0, 0, 0), 7, -1, api.ErrLarge},
		{m(), good, math.MaxInt, 0, api.ErrRange}, {m(), good, math.MinInt, 0, api.ErrRange}, {m(), good, 0, math.MaxInt, api.ErrRange},
	} {
		got, e := control.Braked(row.m, row.s, row.wind, row.stuck)
		check(t, "Braked", e, row.e)
		checkZero(t, "Braked", got)
	}
}

func TestP51Otherwise(t *testing.T) {
	r := rand.New(rand.NewSource(1))
	for range 5000 {
		m := randomMachine(r)
		s := randomState(r, m)
		check(t, "CheckState", control.CheckState(m, s), api.OK)
		check(t, "CheckAct", control.CheckAct(m, randomAct(r, m)), api.OK)
		wind, stuck := number(r, 0, m.Wind), r.Intn(4)-1
		want := slowNext(m, s, brake(wind, stuck))
		got, e := control.Braked(m, s, wind, stuck)
		if want.Speed > m.Limit {
			check(t, "Braked", e, api.ErrLarge)
			checkZero(t, "Braked", got)
			continue
		}
		check(t, "Braked", e, api.OK)
		check(t, "Braked", got, want)
	}
}
