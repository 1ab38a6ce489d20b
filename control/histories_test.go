package control_test

import (
	"math"
	"math/rand"
	"slices"
	"testing"

	"nacelle/api"
	"nacelle/control"
)

func TestP54Example(t *testing.T) {
	s, number, e := control.Replay(m(), history())
	check(t, "Replay", e, api.OK)
	check(t, "Replay", s, turning())
	check(t, "Replay: number", number, 0)
	speeds, e := control.Speeds(m(), history())
	check(t, "Speeds", e, api.OK)
	checkList(t, "Speeds", speeds, []int{0, 0, 4, 14})
	for i, pitch := range []int{6, 4, 2, 0} {
		s, _, e := control.Replay(m(), history()[:i+1])
		check(t, "Replay", e, api.OK)
		check(t, "the pitches", s.Pitch, [3]int{pitch, pitch, pitch})
	}
}

func TestP54Replay(t *testing.T) {
	start, stop := bare("start"), bare("stop")
	long := slices.Repeat([]control.Act{start, stop, bare("rest"), bare("repair")}, 256)
	for _, row := range []struct {
		l    []control.Act
		want control.State
	}{
		{nil, state("idle", 0, -1, 6, 6, 6)}, {[]control.Act{bare("repair"), bare("repair")}, state("idle", 0, -1, 6, 6, 6)}, {[]control.Act{start, stop}, state("stop", 0, -1, 6, 6, 6)}, {[]control.Act{start, tick(10, 0, 0, 2), stop, brake(10, -1), bare("rest")}, state("idle", 0, 2, 6, 6, 6)}, {append(history(), tick(10, 0, 8, 1), stop, brake(10, 1)), state("stop", 22, 1, 2, 0, 2)}, {long, state("idle", 0, -1, 6, 6, 6)},
	} {
		got, number, e := control.Replay(m(), row.l)
		check(t, "Replay", e, api.OK)
		check(t, "Replay", got, row.want)
		check(t, "Replay: number", number, 0)
	}
}

func TestP54Errors(t *testing.T) {
	bad := machine(12, 6, 2, 8, 40, 20, 1)
	many := make([]control.Act, 1025)
	for _, row := range []struct {
		m      control.Machine
		l      []control.Act
		number int
		e      api.Errno
	}{
		{bad, many, 0, api.ErrInfeasible}, {bad, []control.Act{{}}, 0, api.ErrInfeasible}, {control.Machine{}, nil, 0, api.ErrRange}, {m(), many, 0, api.ErrMany}, {m(), many[:1024], 1, api.ErrKind},
		{m(), []control.Act{bare("stop")}, 1, api.ErrRule}, {m(), []control.Act{bare("start"), bare("start")}, 2, api.ErrRule}, {m(), []control.Act{bare("start"), tick(11, 0, 0, -1), bare("x")}, 2, api.ErrRange}, {m(), []control.Act{bare("start"), bare("start"), bare("x")}, 2, api.ErrRule}, {m(), []control.Act{bare("start"), act("stop", 1, 0, 0, -1)}, 2, api.ErrShape}, {m(), []control.Act{bare("start"), act("start", 1, 0, 0, -1)}, 2, api.ErrShape}, {m(), append(history(), tick(10, 0, 8, 0), tick(10, 0, 8, 1)), 6, api.ErrRule}, {m(), []control.Act{bare("start"), tick(math.MaxInt, math.MinInt, 0, -1)}, 2, api.ErrRange},
	} {
		s, number, e := control.Replay(row.m, row.l)
		check(t, "Replay", e, row.e)
		check(t, "Replay: number", number, row.number)
		checkZero(t, "Replay", s)
		speeds, e := control.Speeds(row.m, row.l)
		check(t, "Speeds", e, row.e)
		checkZero(t, "Speeds", speeds)
		energy, e := control.Energy(row.m, row.l)
		check(t, "Energy", e, row.e)
		checkZero(t, "Energy", energy)
	}
}

func TestP54Run(t *testing.T) {
	for _, row := range []struct {
		m     control.Machine
		winds []int
		want  []control.Act
	}{
		{m(), nil, nil}, {m(), []int{7}, []control.Act{bare("start")}}, {m(), []int{10, 10, 10, 10, 9}, []control.Act{bare("start"), tick(10, 0, 0, -1), tick(10, 0, 0, -1), tick(10, 0, 1, -1), tick(9, 0, 5, -1)}},
		{machine(11, 6, 1, 0, 5, 5, 1), []int{11, 11, 11, 11, 11, 11}, []control.Act{bare("start"), tick(11, 0, 0, -1), tick(11, 0, 0, -1), tick(11, 0, 0, -1), tick(11, 6, 0, -1), tick(11, 0, 0, -1)}},
	} {
		got, e := control.Run(row.m, row.winds)
		check(t, "Run", e, api.OK)
		checkList(t, "Run", got, row.want)
	}
	got, e := control.Run(m(), make([]int, 1024))
	check(t, "Run", e, api.OK)
	check(t, "Run in many winds", len(got), 1024)
}

func TestP54RunErrors(t *testing.T) {
	for _, row := range []struct {
		m     control.Machine
		winds []int
		e     api.Errno
	}{
		{machine(12, 6, 2, 8, 40, 20, 1), []int{-1}, api.ErrInfeasible}, {machine(10, 6, 2, 8, 40, 41, 1), make([]int, 1025), api.ErrLarge}, {m(), make([]int, 1025), api.ErrMany}, {m(), slices.Repeat([]int{-1}, 1025), api.ErrMany}, {m(), []int{-1}, api.ErrRange}, {m(), []int{10, 11}, api.ErrRange}, {m(), []int{math.MinInt}, api.ErrRange}, {m(), []int{math.MaxInt}, api.ErrRange},
	} {
		got, e := control.Run(row.m, row.winds)
		check(t, "Run", e, row.e)
		checkZero(t, "Run", got)
	}
}

func TestP54Energy(t *testing.T) {
	for _, row := range []struct {
		l    []control.Act
		want int
	}{
		{nil, 0}, {history(), 0}, {append(history(), tick(10, 0, 3, -1)), 3 * 21}, {append(history(), tick(10, 0, 3, -1), tick(0, 0, 8, -1)), 3*21 + 8*13}, {append(history(), tick(10, 0, 3, -1), bare("stop"), brake(10, -1)), 3 * 21}, {[]control.Act{bare("start"), tick(0, 0, 8, -1)}, 0},
	} {
		got, e := control.Energy(m(), row.l)
		check(t, "Energy", e, api.OK)
		check(t, "Energy", got, row.want)
	}
	strong := machine(100, 100, 100, 100, 1000, 1, 1)
	l := append([]control.Act{bare("start")}, slices.Repeat([]control.Act{tick(100, 0, 0, -1)}, 8)...)
	l = append(l, slices.Repeat([]control.Act{tick(100, 0, 100, -1)}, 1015)...)
	got, e := control.Energy(strong, l)
	check(t, "Energy", e, api.OK)
	check(t, "the energy of a long history", got, 1015*100*800)
}

func TestP54Ramps(t *testing.T) {
	for _, row := range []struct {
		l    []int
		most int
		want int
	}{
		{nil, 0, -1}, {[]int{7}, 0, -1}, {[]int{7, 7}, 0, -1}, {[]int{7, 8}, 0, 1}, {[]int{8, 7}, 0, 1}, {[]int{7, 9, 12, 8}, 3, 3}, {[]int{7, 9, 12, 8}, 2, 2}, {[]int{7, 9, 12, 8}, 4, -1}, {[]int{7, 9, 12, 8}, 1, 1}, {[]int{0, 999999999, 0}, 999999999, -1}, {[]int{999999999, 0}, 999999998, 1}, {[]int{0, 999999999}, 999999998, 1}, {make([]int, 1024), 0, -1}, {[]int{0, 2, 4, 6}, 2, -1},
	} {
		got, e := control.Ramps(row.l, row.most)
		check(t, "Ramps", e, api.OK)
		check(t, "Ramps", got, row.want)
	}
	for _, row := range []struct {
		l    []int
		most int
		e    api.Errno
	}{
		{make([]int, 1025), -1, api.ErrMany}, {slices.Repeat([]int{-1}, 1025), 0, api.ErrMany}, {[]int{-1}, 0, api.ErrRange}, {[]int{0, 1000000000}, 0, api.ErrRange}, {nil, -1, api.ErrRange}, {nil, 1000000000, api.ErrRange}, {[]int{math.MinInt, math.MaxInt}, 0, api.ErrRange}, {nil, math.MinInt, api.ErrRange}, {nil, math.MaxInt, api.ErrRange},
	} {
		got, e := control.Ramps(row.l, row.most)
		check(t, "Ramps", e, row.e)
		checkZero(t, "Ramps", got)
	}
}

func TestP54Otherwise(t *testing.T) {
	r := rand.New(rand.NewSource(5))
	for range 200 {
		m := randomMachine(r)
		l, last := randomHistory(r, m, 40)
		at, _ := control.Begin(m)
		energy := 0
		var speeds []int
		for _, a := range l {
			check(t, "a rule", slowRule(m, at, a), 0)
			at = slowNext(m, at, a)
			speeds = append(speeds, at.Speed)
			if a.Kind == "tick" {
				energy += at.Speed * at.Torque
			}
		}
		s, number, e := control.Replay(m, l)
		check(t, "Replay", e, api.OK)
		check(t, "Replay: number", number, 0)
		check(t, "Replay", s, at)
		check(t, "Replay", s, last)
		got, e := control.Speeds(m, l)
		check(t, "Speeds", e, api.OK)
		checkList(t, "Speeds", got, speeds)
		n, e := control.Energy(m, l)
		check(t, "Energy", e, api.OK)
		check(t, "Energy", n, energy)
		cut := r.Intn(len(l) + 1)
		wrong := slices.Insert(slices.Clone(l), cut, bare("x"))
		_, number, e = control.Replay(m, wrong)
		check(t, "Replay of a wrong act", e, api.ErrKind)
		check(t, "Replay of a wrong act: number", number, cut+1)
	}
}

func TestP54RunOtherwise(t *testing.T) {
	r := rand.New(rand.NewSource(6))
	for range 100 {
		m := randomMachine(r)
		var winds []int
		for range r.Intn(60) {
			winds = append(winds, number(r, 0, m.Wind))
		}
		got, e := control.Run(m, winds)
		check(t, "Run", e, api.OK)
		at, _ := control.Begin(m)
		var want []control.Act
		for _, wind := range winds {
			a := slowPropose(m, at, wind)
			want = append(want, a)
			at = slowNext(m, at, a)
		}
		checkList(t, "Run", got, want)
		s, _, e := control.Replay(m, got)
		check(t, "Replay of a run", e, api.OK)
		check(t, "Replay of a run", s, at)
	}
}
