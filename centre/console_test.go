package centre_test

import (
	"fmt"
	"math/rand"
	"slices"
	"strings"
	"testing"

	"nacelle/api"
	"nacelle/centre"
)

// sessionOf returns a session in which some lines were done.
func sessionOf(t *testing.T, lines ...string) *centre.Session {
	t.Helper()
	s := centre.New()
	for i, line := range lines {
		check(t, "Do: "+line, results(s.Do(line)), fmt.Sprint("done ", i+1), api.OK)
	}
	return s
}

// busy are lines behind which each question has an answer.
func busy() []string {
	return append(settled(), "turbine b 2 9", "person a issue ann 2", "person a enter ann 2", "telegram b 2 65530 9", "telegram b 3 4 0", "telegram b 3 5 1", "meter b 3 7 9 1 2", "meter a 3 7 50 0 0", "meter a 3 0 8 0 8", "meter b 3 40000 1 0 0", "turbine c 3 1", "meter c 3 0 1 1 0", "settle 3 0 100 1 2 3")
}

func TestP105Questions(t *testing.T) {
	begun := []string{"turbine b 0 5", "turbine a 0 5"}
	for _, row := range []struct {
		lines          []string
		question, want string
	}{
		{nil, "running", "none"}, {nil, "open", "none"}, {nil, "amount", "0"}, {begun, "running", "b a"}, {begun, "open", "none"}, {begun, "inside a", "none"}, {begun, "keys a", "none"}, {begun, "lost a", "0 0"}, {begun, "energy a", "0"}, {entered(), "running", "none"}, {entered(), "inside a", "bob"}, {entered(), "keys a", "bob"}, {append(entered(), "person a leave bob 1"), "inside a", "none"}, {append(entered(), "person a leave bob 1"), "keys a", "bob"}, {append(entered(), "undo"), "inside a", "none"}, {append(entered(), "undo", "undo"), "keys a", "none"},
		{settled(), "amount", "2650"}, {settled(), "open", "none"}, {settled()[:9], "open", "40"}, {settled()[:9], "amount", "0"}, {settled(), "energy a", "45"},
		{busy(), "inside a", "ann bob"}, {busy(), "inside b", "none"}, {busy(), "keys a", "ann bob"}, {busy(), "keys c", "none"}, {busy(), "lost a", "0 0"}, {busy(), "lost b", "3 9"}, {busy(), "lost c", "0 0"}, {busy(), "energy a", "95"}, {busy(), "energy b", "7"}, {busy(), "energy c", "0"}, {busy(), "running", "b c"}, {busy(), "open", "7 40000"}, {busy(), "amount", "2553"},
		{[]string{"turbine a 0 5", "meter a 0 9 5 0 0", "settle 0 9 10 1 1 8"}, "amount", "-30"}, {[]string{"turbine a 0 5", "meter a 0 9 5 0 0", "settle 0 9 10 0 0 0"}, "amount", "0"}, {append(farm(64, 1), "act t3 stop 0"), "running", strings.TrimSpace(strings.Replace(sequence(64), "t3 ", "", 1))},
	} {
		s := sessionOf(t, row.lines...)
		check(t, row.question, results(s.Do(row.question)), row.want, api.OK)
		check(t, "a question changes nothing", results(s.Events(), s.Log()), journal(row.lines...), logOf(row.lines...))
	}
}

// sequence returns the names of so many turbines.
func sequence(count int) string {
	out := ""
	for i := range count {
		out += fmt.Sprintf("t%d ", i)
	}
	return out
}

// wrongLines are lines with errors, behind those of entered.
var wrongLines = []struct {
	line string
	e    api.Errno
}{
	{strings.Repeat("x", 4097), api.ErrLong}, {"running" + strings.Repeat(" ", 4090), api.ErrLong}, {strings.Repeat("x", 4096), api.ErrKind}, {"", api.ErrSyntax},
	{" ", api.ErrKind}, {" running", api.ErrKind}, {"Running", api.ErrKind}, {"stop a 1", api.ErrKind}, {"9 undo", api.ErrKind}, {"undo\n", api.ErrKind}, {"run", api.ErrKind}, {"running\t", api.ErrKind}, {"\xff", api.ErrKind}, {"none", api.ErrKind}, {"x turbine", api.ErrKind},
	{"inside", api.ErrSyntax}, {"inside ", api.ErrSyntax}, {"inside a ", api.ErrSyntax}, {"inside  a", api.ErrSyntax}, {"inside a b", api.ErrSyntax}, {"inside x y", api.ErrSyntax}, {"keys", api.ErrSyntax}, {"keys a a", api.ErrSyntax}, {"lost", api.ErrSyntax}, {"lost a ", api.ErrSyntax}, {"energy", api.ErrSyntax}, {"energy  ", api.ErrSyntax}, {"running ", api.ErrSyntax}, {"running a", api.ErrSyntax}, {"open ", api.ErrSyntax}, {"open 40", api.ErrSyntax}, {"amount ", api.ErrSyntax}, {"amount a", api.ErrSyntax},
	{"inside b", api.ErrUnknown}, {"inside A", api.ErrUnknown}, {"inside bob", api.ErrUnknown}, {"keys b", api.ErrUnknown}, {"lost b", api.ErrUnknown}, {"lost 1", api.ErrUnknown}, {"energy a\n", api.ErrUnknown}, {"energy " + long, api.ErrUnknown}, {"inside \xff", api.ErrUnknown},
	{"turbine", api.ErrSyntax}, {"turbine b 1", api.ErrSyntax}, {"turbine b 1 100 ", api.ErrSyntax}, {"turbine  1 100", api.ErrSyntax}, {"turbine b  100", api.ErrSyntax}, {"turbine b 1 100 1", api.ErrSyntax}, {"turbine b c 1 100", api.ErrSyntax}, {"turbine b 1 1000000000", api.ErrSyntax}, {"turbine b 1 -1", api.ErrSyntax}, {"turbine b 01 100", api.ErrSyntax}, {"turbine b 1 +1", api.ErrSyntax}, {"turbine b 1 100\n", api.ErrSyntax}, {"turbine b 1 x", api.ErrSyntax}, {"turbine _ 1 x", api.ErrSyntax}, {"telegram a 1 7", api.ErrSyntax}, {"act a 1", api.ErrSyntax}, {"act a stop", api.ErrSyntax}, {"person a enter 1", api.ErrSyntax}, {"meter a 1 2 3 4", api.ErrSyntax}, {"settle 1 2 3 4 5", api.ErrSyntax}, {"settle a 1 2 3 4 5", api.ErrSyntax}, {"undo ", api.ErrSyntax}, {"undo 1", api.ErrSyntax}, {"undo a", api.ErrSyntax},
	{"turbine _ 0 0", api.ErrName}, {"turbine 1 1 100", api.ErrName}, {"turbine " + long + " 1 100", api.ErrName}, {"turbine \xff 1 100", api.ErrName}, {"turbine a\n 1 100", api.ErrName}, {"person a enter b-b 0", api.ErrName}, {"act x ? 0", api.ErrName},
	{"turbine b 0 0", api.ErrState}, {"turbine a 1 0", api.ErrTwice}, {"turbine b 1 0", api.ErrRange}, {"telegram b 1 7 5", api.ErrUnknown}, {"telegram a 1 7 5", api.ErrState}, {"telegram a 1 7 101", api.ErrLarge}, {"act a unlock 1", api.ErrRule}, {"act a enter 1", api.ErrKind}, {"act a open 1", api.ErrKind}, {"person a enter bob 1", api.ErrRule}, {"person a lock bob 1", api.ErrKind}, {"meter a 1 40001 0 0 0", api.ErrRange}, {"meter a 1 7 9 9 1", api.ErrConflict}, {"settle 1 7 0 2 1 0", api.ErrOrder}, {"settle 1 7 0 0 1 2", api.ErrNone},
}

func TestP105Errors(t *testing.T) {
	s := sessionOf(t, entered()...)
	for _, row := range wrongLines {
		check(t, "Do: "+row.line, results(s.Do(row.line)), "", row.e)
		check(t, "an error changes nothing", results(s.Events(), s.Log()), journal(entered()...), logOf(entered()...))
	}
	for _, line := range []string{"undo", "running", "nothing"} {
		e := map[string]api.Errno{"undo": api.ErrEmpty, "running": api.OK, "nothing": api.ErrKind}[line]
		_, got := centre.New().Do(line)
		check(t, "Do: "+line, results(got), e)
	}
	check(t, "behind errors", results(s.Do("person a leave bob 1")), "done 9", api.OK)
}

func TestP105Full(t *testing.T) {
	s := sessionOf(t, full()...)
	check(t, "the log", results(s.Events(), s.Log()), journal(full()...), logOf(full()...))
	for _, row := range []struct {
		line, want string
		e          api.Errno
	}{
		{"undo", "", api.ErrMany}, {"turbine a 1 1", "", api.ErrMany}, {"turbine _ 1 1", "", api.ErrMany}, {"settle 0 40001 0 2 1 0", "", api.ErrMany}, {"undo ", "", api.ErrSyntax}, {"turbine a 1", "", api.ErrSyntax}, {"x", "", api.ErrKind}, {"running", "none", api.OK}, {"inside a", "", api.ErrUnknown},
	} {
		check(t, "Do: "+row.line, results(s.Do(row.line)), row.want, row.e)
	}
	check(t, "the last event", results(sessionOf(t, full()[:999]...).Do("undo")), "done 1000", api.OK)
}

func TestP105Nil(t *testing.T) {
	for _, line := range []string{"", "running", "undo", "x", strings.Repeat("x", 5000)} {
		check(t, "Do of nil", results(noSession.Do(line)), "", api.ErrState)
	}
	check(t, "Events and Log of nil", results(noSession.Events(), noSession.Log()), noEvents, "")
	check(t, "a new session", results(centre.New().Events(), centre.New().Log()), noEvents, "")
	var zero centre.Session
	check(t, "the zero session", results(zero.Do("turbine a 1 1")), "done 1", api.OK)
}

func TestP105Open(t *testing.T) {
	for _, lines := range [][]string{nil, entered(), settled(), busy(), full()} {
		for _, rest := range []string{"", "x", fmt.Sprint(len(lines)+1) + " undo", strings.Repeat("#", 99)} {
			s, e := centre.Open(logOf(lines...) + rest)
			check(t, "Open", results(e), api.OK)
			check(t, "an opened session", results(s.Events(), s.Log()), journal(lines...), logOf(lines...))
		}
	}
	s, _ := centre.Open(logOf(entered()...) + "9 und")
	check(t, "Do", results(s.Do("undo")), "done 9", api.OK)
	check(t, "Do", results(s.Do("inside a")), "none", api.OK)
	check(t, "Log", results(s.Log()), logOf(append(entered(), "undo")...))
}

func TestP105OpenErrors(t *testing.T) {
	log := logOf(entered()...)
	for _, row := range rests {
		s, e := centre.Open(log + row.s)
		if row.e == api.ErrTorn {
			row.e = api.OK
		}
		check(t, "Open with "+row.s, results(s == nil, e), row.e != api.OK, row.e)
	}
	for _, row := range refused {
		s, e := centre.Open(logOf(row.lines...) + "torn")
		check(t, "Open: "+strings.Join(row.lines, ", "), results(s == nil, e), row.e != api.OK, row.e)
	}
	for _, row := range []struct {
		log string
		e   api.Errno
	}{
		{strings.Repeat("x", 1000001), api.ErrLong}, {logOf("undo") + "\n", api.ErrSyntax}, {logOf("undo"), api.ErrEmpty}, {logOf("turbine a 1 1", "turbine a 1 1") + record("4 undo"), api.ErrOrder}, {logOf("turbine a 1 1", "turbine a 1 1") + record("3 undo"), api.ErrTwice},
	} {
		s, e := centre.Open(row.log)
		check(t, "Open", results(s == nil, e), true, row.e)
	}
}

// TestP105Otherwise: a session does what is accepted, and answers by the register.
func TestP105Otherwise(t *testing.T) {
	r := rand.New(rand.NewSource(5))
	for range 60 {
		s := centre.New()
		var l []api.Event
		for range 80 {
			at := slowRegister(slowCounting(l))
			line := randomLine(r, at)
			e := event(len(l)+1, line)
			want, done := slowError(slowCounting(l), e), ""
			if want == api.OK {
				l, done = append(l, e), fmt.Sprint("done ", len(l)+1)
			}
			check(t, "Do: "+line, results(s.Do(line)), done, want)
		}
		check(t, "Events", results(s.Events()), l)
		answers(t, s, slowRegister(slowCounting(l)))
	}
}

// TestP105AnyLine compares with errors of lines of any words.
func TestP105AnyLine(t *testing.T) {
	r := rand.New(rand.NewSource(15))
	words := names("turbine", "telegram", "act", "person", "meter", "settle", "undo", "inside", "keys", "lost", "energy", "running", "open", "amount", "a", "b", "bob", "stop", "enter", "1", "2", "40", "0", "01", "-1", "1000000000", "", "_", "\xff", "x\n")
	found := map[api.Errno]int{}
	for range 20 {
		var l []api.Event
		s := centre.New()
		for range 200 {
			line := randomLine(r, slowRegister(slowCounting(l)))
			if r.Intn(4) > 0 {
				parts := append(strings.Split(line, " "), pick(r, words...))
				parts[r.Intn(len(parts))] = pick(r, words...)
				line = strings.Join(parts[:max(len(parts)-r.Intn(3), 1)], " ")
			}
			if r.Intn(4) == 0 {
				line = pick(r, words...) + pick(r, "", " ", " a", " b", " bob")
			}
			want := slowDo(l, line)
			found[want]++
			_, e := s.Do(line)
			check(t, "Do: "+line, results(e), want)
			if _, isKind := shapes[strings.Split(line, " ")[0]]; isKind && e == api.OK {
				l = append(l, event(len(l)+1, line))
			}
		}
		check(t, "Events", results(s.Events()), l)
	}
	for _, e := range []api.Errno{api.OK, api.ErrSyntax, api.ErrKind, api.ErrUnknown, api.ErrName} {
		check(t, "each error is met", results(found[e] > 10, e), true, e)
	}
}

// answers checks the answers of a session with a register.
func answers(t *testing.T, s *centre.Session, at centre.Register) {
	t.Helper()
	ask := func(question string, words []string) {
		t.Helper()
		want := strings.Join(words, " ")
		if want == "" {
			want = "none"
		}
		check(t, question, results(s.Do(question)), want, api.OK)
	}
	var running, open []string
	amount, last := 0, -1
	for _, x := range at.Turbines {
		energy := 0
		for _, m := range at.Meters {
			if m.Turbine == x.Name {
				energy += m.Available - m.Curtailed - m.Lost
			}
		}
		ask("inside "+x.Name, x.Lock.Inside)
		ask("keys "+x.Name, x.Lock.Keys)
		ask("lost "+x.Name, []string{fmt.Sprint(x.Received), fmt.Sprint(x.Lost)})
		ask("energy "+x.Name, []string{fmt.Sprint(energy)})
		if x.Lock.Running {
			running = append(running, x.Name)
		}
	}
	sorted := slices.Clone(at.Meters)
	slices.SortFunc(sorted, func(a, b centre.Meter) int { return a.Quarter - b.Quarter })
	for _, m := range sorted {
		if m.Quarter > last && !slices.ContainsFunc(at.Settled, func(s centre.Settlement) bool { return s.Quarter == m.Quarter }) {
			open = append(open, fmt.Sprint(m.Quarter))
		}
		last = m.Quarter
	}
	for _, x := range at.Settled {
		amount += x.Amount
	}
	ask("running", running)
	ask("open", open)
	ask("amount", []string{fmt.Sprint(amount)})
}

// TestP105Memory: the events that a session returns are not those that it keeps, and no two sessions share any.
func TestP105Memory(t *testing.T) {
	s := sessionOf(t, entered()...)
	for _, e := range s.Events() {
		for i := range e.Names {
			e.Names[i] = "x"
		}
		for i := range e.Values {
			e.Values[i] = 9
		}
	}
	check(t, "Events", results(s.Events(), s.Log()), journal(entered()...), logOf(entered()...))
	other := centre.New()
	check(t, "another session", results(other.Do("undo")), "", api.ErrEmpty)
	first, _ := centre.Open(s.Log())
	second, _ := centre.Open(s.Log())
	check(t, "Do", results(first.Do("undo")), "done 9", api.OK)
	check(t, "Do", results(second.Do("inside a")), "bob", api.OK)
}
