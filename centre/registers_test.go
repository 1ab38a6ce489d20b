package centre_test

import (
	"fmt"
	"math/rand"
	"slices"
	"strings"
	"testing"

	"nacelle/api"
	"nacelle/centre"
	"nacelle/work"
)

// changed returns an event that a function has changed.
func changed(e api.Event, change func(*api.Event)) api.Event {
	change(&e)
	return e
}

// wrongEvents are events with errors by themselves.
func wrongEvents() []struct {
	e    api.Event
	want api.Errno
} {
	type row = struct {
		e    api.Event
		want api.Errno
	}
	meter, undo := event(1, "meter a 2 40 60 10 5"), event(1, "undo")
	out := []row{
		{api.Event{}, api.ErrRange}, {event(0, "undo"), api.ErrRange}, {event(-1, "undo"), api.ErrRange}, {event(1001, "undo"), api.ErrRange}, {event(outside[0], "undo"), api.ErrRange}, {event(outside[3], "undo"), api.ErrRange}, {api.Event{Number: 1001, Kind: "x"}, api.ErrRange},
		{api.Event{Number: 1}, api.ErrKind}, {api.Event{Number: 1, Kind: "Undo"}, api.ErrKind}, {api.Event{Number: 1, Kind: "undo "}, api.ErrKind}, {api.Event{Number: 1, Kind: "inside", Names: names("a", "")}, api.ErrKind}, {api.Event{Number: 1000, Kind: "stop", Text: "x"}, api.ErrKind},
		{changed(meter, func(e *api.Event) { e.Names = nil }), api.ErrShape}, {changed(meter, func(e *api.Event) { e.Names = names("", "") }), api.ErrShape}, {changed(meter, func(e *api.Event) { e.Values = e.Values[:4] }), api.ErrShape}, {changed(meter, func(e *api.Event) { e.Names, e.Values = names(""), append(e.Values, -1) }), api.ErrShape}, {changed(undo, func(e *api.Event) { e.Names = names("a") }), api.ErrShape}, {changed(undo, func(e *api.Event) { e.Values = []int{1} }), api.ErrShape}, {api.Event{Number: 1, Kind: "settle", Names: names("a"), Values: make([]int, 6)}, api.ErrShape}, {api.Event{Number: 1, Kind: "act", Names: names("a"), Values: []int{1}}, api.ErrShape}, {api.Event{Number: 1, Kind: "person", Names: names("a", "enter"), Values: []int{1}}, api.ErrShape},
		{changed(undo, func(e *api.Event) { e.Text = "x" }), api.ErrForm}, {changed(meter, func(e *api.Event) { e.Text = " " }), api.ErrForm},
	}
	for _, name := range names("", "1", "_a", "a b", "a-b", "a\n", long, "\xff", "é") {
		out = append(out, row{changed(meter, func(e *api.Event) { e.Names, e.Values = names(name), slices.Repeat([]int{-1}, 5) }), api.ErrName})
		for i := range 3 {
			out = append(out, row{changed(event(1, "person a enter bob 1"), func(e *api.Event) { e.Names, e.Text = slices.Clone(e.Names), "x"; e.Names[i] = name }), api.ErrName})
		}
	}
	for _, n := range outside {
		for i := range 5 {
			out = append(out, row{changed(meter, func(e *api.Event) { e.Values, e.Text = slices.Clone(e.Values), "x"; e.Values[i] = n }), api.ErrRange})
		}
	}
	return out
}

func TestP103CheckEvent(t *testing.T) {
	lines := append(settled(), "undo", "telegram a 999999999 999999999 999999999", "act open x 0", "person "+fitting+" Z_9 z 0", "turbine a 0 0", "settle 0 0 0 0 0 0", "meter a 999999999 999999999 999999999 999999999 999999999")
	for _, line := range lines {
		for _, number := range []int{1, 2, 999, 1000} {
			check(t, "CheckEvent", results(centre.CheckEvent(event(number, line)), line), api.OK, line)
		}
	}
	for _, row := range wrongEvents() {
		check(t, "CheckEvent", results(centre.CheckEvent(row.e), row.e), row.want, row.e)
		check(t, "the first error", results(slowCheckEvent(row.e), row.e), row.want, row.e)
	}
}

func TestP103Examples(t *testing.T) {
	a := centre.Turbine{Name: "a", Capacity: 100, Lock: work.Begin()}
	check(t, "Replay", results(centre.Replay(nil)), noRegister, 0, api.OK)
	check(t, "Replay", results(centre.Replay(journal("turbine a 1 100"))), centre.Register{Day: 1, Turbines: []centre.Turbine{a}}, 0, api.OK)
	check(t, "Replay", results(centre.Replay(journal("turbine a 1 100", "person a enter bob 1"))), noRegister, 2, api.ErrRule)
	a.Lock = secured(names("bob"), names("bob"))
	check(t, "Replay", results(centre.Replay(journal(entered()...))), centre.Register{Day: 1, Turbines: []centre.Turbine{a}}, 0, api.OK)
	want := centre.Register{Day: 2, Turbines: []centre.Turbine{a}, Meters: []centre.Meter{meter("a", 40, 60, 10, 5)}, Settled: []centre.Settlement{{Quarter: 40, Offered: 50, Amount: 2650}}}
	check(t, "Replay", results(centre.Replay(journal(settled()...))), want, 0, api.OK)
	heard := journal("turbine a 1 100", "telegram a 1 65530 100", "telegram a 3 65531 0", "telegram a 3 4 7")
	check(t, "Replay", results(centre.Replay(heard)), centre.Register{Day: 3, Turbines: []centre.Turbine{{Name: "a", Capacity: 100, Lock: work.Begin(), Sequence: 4, Received: 3, Lost: 8, Power: 7}}}, 0, api.OK)
	short := journal("turbine a 0 100", "turbine b 0 5", "meter b 0 7 5 0 1", "meter a 0 7 20 0 0", "meter a 0 6 9 9 0", "settle 0 7 30 1 2 3", "settle 0 6 0 1 2 3")
	check(t, "Replay", results(centre.Replay(short)), centre.Register{Turbines: []centre.Turbine{{Name: "a", Capacity: 100, Lock: work.Begin()}, {Name: "b", Capacity: 5, Lock: work.Begin()}}, Meters: []centre.Meter{meter("b", 7, 5, 0, 1), meter("a", 7, 20, 0, 0), meter("a", 6, 9, 9, 0)}, Settled: []centre.Settlement{{Quarter: 7, Offered: 30, Amount: 42}, {Quarter: 6, Amount: 9}}}, 0, api.OK)
}

// refused are lines, and the error with which the last one is not accepted after the others.
var refused = []struct {
	lines []string
	e     api.Errno
}{
	{append(entered(), "act a unlock 1"), api.ErrRule}, {append(entered(), "telegram a 1 7 5"), api.ErrState}, {append(entered(), "telegram a 1 7 0"), api.OK}, {append(settled(), "undo"), api.ErrRule}, {append(settled(), "meter a 2 40 1 0 0"), api.ErrOver}, {append(settled(), "telegram a 2 1 0", "undo"), api.OK}, {append(settled(), "telegram a 2 1 0", "undo", "undo"), api.ErrRule},
	{names("undo"), api.ErrEmpty}, {names("turbine a 1 1", "undo"), api.OK}, {names("turbine a 1 1", "undo", "undo"), api.ErrEmpty}, {names("turbine a 5 1", "undo", "turbine a 1 2"), api.OK}, {names("turbine a 1 1", "turbine b 5 1", "undo", "turbine b 4 1"), api.OK}, {names("turbine a 1 1", "turbine b 5 1", "undo", "undo", "telegram a 9 9 0"), api.ErrUnknown},
	{names("turbine a 1 1", "turbine b 0 1"), api.ErrState}, {names("turbine a 1 1", "turbine a 0 0"), api.ErrState}, {names("turbine a 1 1", "settle 0 40001 0 2 1 0"), api.ErrState}, {names("turbine a 1 1", "meter x 0 0 0 0 0"), api.ErrState}, {names("turbine a 1 1", "act x y 0"), api.ErrState}, {names("turbine a 1 1", "person x y z 0"), api.ErrState}, {names("turbine a 1 1", "telegram x 0 0 0"), api.ErrState}, {names("turbine a 999999999 1", "turbine b 999999999 1"), api.OK},
	{names("turbine a 1 1", "turbine a 1 0"), api.ErrTwice}, {names("turbine a 1 1", "turbine A 1 1"), api.OK}, {names("turbine a 1 0"), api.ErrRange}, {names("turbine a 1 100001"), api.ErrRange}, {names("turbine a 1 100000"), api.OK}, {append(farm(64, 1), "turbine a 0 0"), api.ErrRange}, {append(farm(64, 1), "turbine t63 0 0"), api.ErrTwice}, {append(farm(64, 1), "turbine a 0 1"), api.ErrMany}, {append(farm(63, 1), "turbine a 0 1"), api.OK}, {append(farm(64, 1), "undo", "turbine a 0 1"), api.OK},
	{names("telegram a 1 65536 1"), api.ErrUnknown}, {names("meter a 1 40001 1 2 3"), api.ErrUnknown}, {names("act a y 1"), api.ErrUnknown}, {names("person a y z 1"), api.ErrUnknown}, {names("turbine b 1 1", "act a stop 1"), api.ErrUnknown}, {names("turbine a 1 1", "undo", "act a stop 1"), api.ErrUnknown},
	{names("turbine a 1 5", "telegram a 1 65535 5"), api.OK}, {names("turbine a 1 5", "telegram a 1 65536 6"), api.ErrRange}, {names("turbine a 1 5", "telegram a 1 999999999 0"), api.ErrRange}, {names("turbine a 1 5", "telegram a 1 7 6"), api.ErrLarge}, {names("turbine a 1 5", "act a stop 1", "telegram a 1 7 6"), api.ErrLarge}, {names("turbine a 1 5", "act a stop 1", "telegram a 1 65536 1"), api.ErrRange}, {names("turbine a 1 5", "telegram a 1 7 0", "act a stop 1", "telegram a 1 7 1"), api.ErrState}, {names("turbine a 1 5", "act a stop 1", "telegram a 1 7 1"), api.ErrState}, {names("turbine a 1 5", "act a stop 1", "telegram a 1 7 0"), api.OK},
	{names("turbine a 1 5", "telegram a 1 7 0", "telegram a 1 7 1"), api.ErrTwice}, {names("turbine a 1 5", "telegram a 1 7 0", "telegram a 1 6 6"), api.ErrLarge}, {names("turbine a 1 5", "telegram a 1 7 0", "telegram a 1 6 5"), api.ErrOrder}, {names("turbine a 1 5", "telegram a 1 0 0", "telegram a 1 32768 0"), api.OK}, {names("turbine a 1 5", "telegram a 1 0 0", "telegram a 1 32769 0"), api.ErrOrder}, {names("turbine a 1 5", "telegram a 1 65535 0", "telegram a 1 0 0"), api.OK}, {names("turbine a 1 5", "telegram a 1 0 0"), api.OK}, {names("turbine a 1 5", "telegram a 1 0 0", "telegram a 1 0 0"), api.ErrTwice}, {names("turbine a 1 5", "telegram a 1 40000 0"), api.OK}, {names("turbine a 1 5", "turbine b 1 5", "telegram a 1 7 0", "telegram b 1 7 0"), api.OK}, {names("turbine a 1 5", "telegram a 1 7 0", "undo", "telegram a 1 7 0"), api.OK},
	{names("turbine a 1 5", "act a open 1"), api.ErrKind}, {names("turbine a 1 5", "act a enter 1"), api.ErrKind}, {names("turbine a 1 5", "act a issue 1"), api.ErrKind}, {names("turbine a 1 5", "act a leave 1"), api.ErrKind}, {names("turbine a 1 5", "act a return 1"), api.ErrKind}, {names("turbine a 1 5", "act a start 1"), api.ErrRule}, {names("turbine a 1 5", "act a stop 1"), api.OK}, {names("turbine a 1 5", "act a stop 1", "act a stop 1"), api.ErrRule}, {names("turbine a 1 5", "act a stop 1", "act a prove 1"), api.ErrRule}, {names("turbine a 1 5", "turbine b 1 5", "act a stop 1", "act b lock 1"), api.ErrRule},
	{names("turbine a 1 5", "person a stop ann 1"), api.ErrKind}, {names("turbine a 1 5", "person a lock ann 1"), api.ErrKind}, {names("turbine a 1 5", "person a open ann 1"), api.ErrKind}, {names("turbine a 1 5", "person a issue ann 1"), api.ErrRule}, {names("turbine a 1 5", "person a leave ann 1"), api.ErrRule}, {append(entered(), "person a enter bob 1"), api.ErrRule}, {append(entered(), "person a return bob 1"), api.ErrRule}, {append(entered(), "person a leave bob 1"), api.OK}, {append(entered(), "person a issue bob 1"), api.ErrRule}, {append(entered(), "person a issue ann 1"), api.OK}, {append(entered(), "person a issue ann 1", "person a enter ann 1"), api.OK}, {append(entered(), "person a enter ann 1"), api.ErrRule},
	{append(entered(), otherEntered()...), api.ErrConflict}, {append(entered(), otherEntered()[:7]...), api.OK}, {append(append(entered(), "person a leave bob 1"), otherEntered()...), api.OK}, {append(append(entered(), otherEntered()[:6]...), "person b enter bob 1"), api.ErrRule}, {append(append(entered(), otherEntered()[:6]...), "person b issue ann 1", "person b enter ann 1"), api.OK},
	{names("turbine a 1 5", "meter a 1 40000 5 2 3"), api.OK}, {names("turbine a 1 5", "meter a 1 40001 6 2 9"), api.ErrRange}, {names("turbine a 1 5", "meter a 1 0 6 2 9"), api.ErrLarge}, {names("turbine a 1 5", "meter a 1 0 5 2 4"), api.ErrConflict}, {names("turbine a 1 5", "meter a 1 0 4 5 0"), api.ErrConflict}, {names("turbine a 1 5", "meter a 1 0 4 999999999 999999999"), api.ErrConflict}, {names("turbine a 1 5", "meter a 1 0 0 0 0"), api.OK}, {names("turbine a 1 5", "meter a 1 7 1 0 0", "meter a 1 7 2 0 0"), api.ErrTwice}, {names("turbine a 1 5", "meter a 1 7 1 0 0", "meter a 1 7 2 0 3"), api.ErrConflict}, {names("turbine a 1 5", "meter a 1 7 1 0 0", "meter a 1 8 2 0 0"), api.OK}, {names("turbine a 1 5", "turbine b 1 5", "meter a 1 7 1 0 0", "meter b 1 7 2 0 0"), api.OK}, {names("turbine a 1 5", "meter a 1 7 1 0 0", "undo", "meter a 1 7 2 0 0"), api.OK}, {append(settled(), "meter a 2 40 1 1 1"), api.ErrConflict}, {append(settled(), "meter a 2 40 101 0 0"), api.ErrLarge}, {append(settled(), "turbine b 2 5", "meter b 2 40 0 0 0"), api.ErrOver}, {append(settled(), "meter a 2 41 1 0 0"), api.OK},
	{names("settle 0 40000 6400000 2 1 0"), api.ErrOrder}, {names("settle 0 40001 0 2 1 0"), api.ErrRange}, {names("settle 0 40000 6400001 2 1 0"), api.ErrRange}, {names("settle 0 0 0 2 1 10001"), api.ErrRange}, {names("settle 0 0 0 1 10001 10001"), api.ErrRange}, {names("settle 0 0 0 1 2 1"), api.ErrOrder}, {names("settle 0 0 0 0 0 0"), api.ErrNone}, {names("turbine a 1 5", "meter a 1 7 1 0 0", "settle 1 8 0 1 2 3"), api.ErrNone}, {append(settled(), "settle 2 40 0 1 2 3"), api.ErrOver}, {append(settled(), "settle 2 40 6400001 1 2 3"), api.ErrRange}, {append(settled(), "settle 2 40 0 3 2 1"), api.ErrOrder}, {append(settled(), "settle 2 0 0 1 2 3"), api.ErrNone}, {append(settled(), "meter a 2 0 0 0 0", "settle 2 0 6400000 10000 10000 10000"), api.OK}, {names("turbine a 1 5", "meter a 1 0 1 0 0", "undo", "settle 1 0 0 1 2 3"), api.ErrNone}, {names("turbine a 1 5", "meter a 1 0 1 0 0", "settle 1 0 0 1 2 3", "settle 1 0 0 1 2 3"), api.ErrOver}, {names("turbine a 1 5", "meter a 1 0 0 0 0", "settle 1 0 0 0 0 0", "meter a 1 0 0 0 0"), api.ErrOver},
}

// otherEntered are lines by which bob gets into a second turbine.
func otherEntered() []string {
	var out []string
	for _, line := range entered() {
		out = append(out, strings.Replace(line, " a ", " b ", 1))
	}
	return out
}

func TestP103Accepts(t *testing.T) {
	for _, row := range refused {
		l := journal(row.lines...)
		last := len(l) - 1
		what := strings.Join(row.lines, ", ")
		check(t, what, results(centre.Accepts(l[:last], l[last])), row.e)
		check(t, "the definition: "+what, results(slowError(slowCounting(l[:last]), l[last])), row.e)
		for _, number := range []int{last, last + 2, 1000} {
			l[last].Number = number
			want := api.ErrOrder
			if number == 0 {
				want = api.ErrRange
			}
			check(t, "another number: "+what, results(centre.Accepts(l[:last], l[last])), want)
		}
		l[last].Number = last + 1
		_, number, e := centre.Replay(append(l, api.Event{}))
		if row.e == api.OK {
			check(t, "Replay: "+what, results(number, e), last+2, api.ErrRange)
		} else {
			check(t, "Replay: "+what, results(number, e), last+1, row.e)
		}
	}
}

// TestP103Greatest: as many turbines as there may be give as much as there may be in a quarter.
func TestP103Greatest(t *testing.T) {
	lines := farm(64, 100000)
	for i := range 64 {
		lines = append(lines, fmt.Sprintf("meter t%d 0 9 100000 0 0", i))
	}
	r, number, e := centre.Replay(journal(append(lines, "settle 0 9 0 10000 10000 10000")...))
	check(t, "Replay", results(r.Settled, number, e), []centre.Settlement{{Quarter: 9, Amount: 64000000000}}, 0, api.OK)
	r, number, e = centre.Replay(journal(append(lines, "settle 0 9 6400000 0 10000 10000")...))
	check(t, "Replay", results(r.Settled, number, e), []centre.Settlement{{Quarter: 9, Offered: 6400000, Amount: 64000000000}}, 0, api.OK)
}

func TestP103Errors(t *testing.T) {
	many := make([]api.Event, 1001)
	check(t, "Replay", results(centre.Replay(many)), noRegister, 0, api.ErrMany)
	check(t, "Replay", results(centre.Replay(many[1:])), noRegister, 1, api.ErrRange)
	check(t, "Accepts", results(centre.Accepts(many, api.Event{})), api.ErrMany)
	check(t, "AsOf", results(centre.AsOf(many, -1)), noRegister, api.ErrMany)
	all := journal(full()...)
	check(t, "Replay", results(centre.Replay(all)), noRegister, 0, api.OK)
	for _, row := range []struct {
		e    api.Event
		want api.Errno
	}{
		{event(1001, "undo"), api.ErrRange}, {event(1000, "undo"), api.ErrMany}, {event(1, "turbine a 1 1"), api.ErrMany}, {event(1, "turbine a 1 0"), api.ErrMany}, {api.Event{Number: 1}, api.ErrKind},
	} {
		check(t, "Accepts", results(centre.Accepts(all, row.e)), row.want)
	}
	check(t, "Accepts", results(centre.Accepts(all[:999], event(1000, "undo"))), api.OK)
	for _, row := range wrongEvents() {
		l := append(journal("turbine a 1 1"), row.e)
		check(t, "Replay", results(centre.Replay(append(l, api.Event{Number: 3}))), noRegister, 2, row.want)
		check(t, "Accepts", results(centre.Accepts(l[:1], row.e)), row.want)
		check(t, "Accepts", results(centre.Accepts(l, api.Event{})), row.want)
		check(t, "AsOf", results(centre.AsOf(l, -1)), noRegister, row.want)
	}
	for _, day := range outside {
		check(t, "AsOf", results(centre.AsOf(journal(entered()...), day)), noRegister, api.ErrRange)
	}
	check(t, "AsOf", results(centre.AsOf(journal("turbine a 1 1", "act a start 1"), 1)), noRegister, api.ErrRule)
	check(t, "Replay", results(centre.Replay([]api.Event{event(2, "turbine a 1 1")})), noRegister, 1, api.ErrOrder)
	check(t, "Replay", results(centre.Replay([]api.Event{event(1, "turbine a 1 1"), event(1, "turbine b 1 1")})), noRegister, 2, api.ErrOrder)
	check(t, "Accepts", results(centre.Accepts([]api.Event{event(2, "undo")}, api.Event{})), api.ErrOrder)
	check(t, "Accepts", results(centre.Accepts(nil, event(2, "undo"))), api.ErrOrder)
}

func TestP103AsOf(t *testing.T) {
	l := journal("turbine a 3 100", "meter a 5 1 9 0 0", "meter a 7 2 9 0 0", "undo", "meter a 6 3 9 0 0", "turbine b 6 5", "settle 9 1 0 1 1 1")
	for _, row := range []struct{ day, same, count int }{{0, 0, 0}, {2, 0, 0}, {3, 3, 1}, {4, 3, 1}, {5, 5, 2}, {6, 6, 4}, {8, 6, 4}, {9, 9, 5}, {999999999, 9, 5}} {
		r, e := centre.AsOf(l, row.day)
		check(t, "AsOf", results(r.Day, len(r.Turbines)+len(r.Meters)+len(r.Settled), e), row.same, row.count, api.OK)
	}
	r, e := centre.AsOf(l, 7)
	check(t, "the meter that was undone", results(r.Meters, r.Settled, e), []centre.Meter{meter("a", 1, 9, 0, 0), meter("a", 3, 9, 0, 0)}, []centre.Settlement{}, api.OK)
	check(t, "AsOf", results(centre.AsOf(nil, 0)), noRegister, api.OK)
	check(t, "AsOf", results(centre.AsOf(journal("turbine a 0 1"), 0)), centre.Register{Turbines: []centre.Turbine{{Name: "a", Capacity: 1, Lock: work.Begin()}}}, api.OK)
}

// TestP103Otherwise compares with registers and errors from the definitions alone.
func TestP103Otherwise(t *testing.T) {
	r := rand.New(rand.NewSource(3))
	found := map[api.Errno]int{}
	for range 150 {
		lines := randomJournal(r, r.Intn(60))
		l := journal(lines...)
		counting := slowCounting(l)
		at := slowRegister(counting)
		check(t, "Replay", results(centre.Replay(l)), at, 0, api.OK)
		for day := range at.Day + 2 {
			kept := slices.DeleteFunc(slices.Clone(counting), func(e api.Event) bool { return e.Values[0] > day })
			check(t, "AsOf", results(centre.AsOf(l, day)), slowRegister(kept), api.OK)
		}
		for range 20 {
			e := event(len(l)+1, randomLine(r, at))
			want := slowError(counting, e)
			found[want]++
			check(t, "Accepts: "+lineOf(e), results(centre.Accepts(l, e)), want)
		}
	}
	for _, e := range []api.Errno{api.OK, api.ErrState, api.ErrTwice, api.ErrRange, api.ErrOver, api.ErrNone, api.ErrUnknown, api.ErrLarge, api.ErrOrder, api.ErrKind, api.ErrRule, api.ErrConflict, api.ErrEmpty} {
		check(t, "each error is met", results(found[e] > 0, e), true, e)
	}
}

// TestP103Memory: results share no memory with arguments, or with later results.
func TestP103Memory(t *testing.T) {
	lines := append(settled(), "person a issue ann 3")
	l := journal(lines...)
	first, _, _ := centre.Replay(l)
	early, _ := centre.AsOf(l, 2)
	first.Turbines[0].Lock.Keys[0], first.Turbines[0].Lock.Inside[0], first.Turbines[0].Name = "x", "y", "z"
	first.Meters[0].Available, first.Settled[0].Amount = -1, -1
	for _, e := range l {
		for i := range e.Values {
			e.Values[i]++
		}
	}
	again, _, _ := centre.Replay(journal(lines...))
	check(t, "Replay", results(again), slowRegister(slowCounting(journal(lines...))))
	check(t, "AsOf", results(early), slowRegister(slowCounting(journal(settled()...))))
	keys := centre.Accepts(journal(lines...), event(12, "person a enter ann 3"))
	check(t, "Accepts", results(keys, journal(lines...)), api.OK, journal(lines...))
}
