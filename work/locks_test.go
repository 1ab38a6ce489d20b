package work_test

import (
	"slices"
	"testing"

	"nacelle/api"
	"nacelle/work"
)

// wrongLocks are locks with errors.
var wrongLocks = []struct {
	l work.Lock
	e api.Errno
}{
	{lockOf("lydp", numbered(17), nil), api.ErrMany}, {lockOf("r", make([]string, 17), nil), api.ErrMany}, {lockOf("lydp", numbered(16), make([]string, 17)), api.ErrMany}, {lockOf("lydp", numbered(16), numbered(17)), api.ErrMany}, {lockOf("r", nil, make([]string, 17)), api.ErrMany},
	{lockOf("r", names(""), nil), api.ErrName}, {lockOf("lydp", names("a", "1"), nil), api.ErrName}, {lockOf("lydp", names("b", ""), nil), api.ErrName}, {lockOf("lydp", names(long), make([]string, 17)), api.ErrName}, {lockOf("lydp", names("a"), names("a b")), api.ErrName}, {lockOf("", nil, names("\xff")), api.ErrName},
	{lockOf("lydp", names("a", "a"), nil), api.ErrOrder}, {lockOf("lydp", names("b", "a", ""), nil), api.ErrOrder}, {lockOf("lydp", names("a", "B"), nil), api.ErrOrder}, {lockOf("lydp", names("ab", "a"), nil), api.ErrOrder}, {lockOf("r", names("b", "a"), names("")), api.ErrOrder}, {lockOf("lydp", names("a", "b"), names("b", "a")), api.ErrOrder}, {lockOf("lydp", names("a", "b"), names("a", "a")), api.ErrOrder}, {lockOf("lydp", names("a"), names("b", "a", "")), api.ErrOrder},
	{lockOf("p", nil, nil), api.ErrState}, {lockOf("lyp", nil, nil), api.ErrState}, {lockOf("rp", nil, nil), api.ErrState}, {lockOf("rl", nil, nil), api.ErrState}, {lockOf("ry", nil, nil), api.ErrState}, {lockOf("rd", nil, nil), api.ErrState}, {lockOf("rlydp", nil, nil), api.ErrState}, {lockOf("r", names("a"), nil), api.ErrState}, {lockOf("rlydp", names("a"), nil), api.ErrState}, {lockOf("r", nil, names("a")), api.ErrState},
	{lockOf("", names("a"), nil), api.ErrState}, {lockOf("lyd", names("a"), nil), api.ErrState}, {lockOf("ldp", names("a"), nil), api.ErrState}, {lockOf("ydp", names("a"), nil), api.ErrState}, {lockOf("ly", names("a"), names("a")), api.ErrState}, {lockOf("lydp", nil, names("a")), api.ErrState}, {lockOf("lydp", names("a", "c"), names("b")), api.ErrState}, {lockOf("lydp", names("a"), names("a", "b")), api.ErrState}, {lockOf("", nil, names("a")), api.ErrState},
}

// wrongActs are acts with errors.
var wrongActs = []struct {
	a work.Act
	e api.Errno
}{
	{act(""), api.ErrKind}, {act("", "ann"), api.ErrKind}, {act("Stop"), api.ErrKind}, {act("stop "), api.ErrKind}, {act("close", ""), api.ErrKind}, {act("returns", "1"), api.ErrKind}, {act("\xff"), api.ErrKind},
	{act("enter"), api.ErrName}, {act("issue"), api.ErrName}, {act("leave"), api.ErrName}, {act("return"), api.ErrName}, {act("enter", "1"), api.ErrName}, {act("issue", "a b"), api.ErrName}, {act("leave", long), api.ErrName}, {act("return", "_a"), api.ErrName}, {act("enter", "\xff"), api.ErrName},
	{act("energize", "ann"), api.ErrName}, {act("fix", "ann"), api.ErrName}, {act("free", "ann"), api.ErrName}, {act("isolate", "ann"), api.ErrName}, {act("lock", "ann"), api.ErrName}, {act("prove", "ann"), api.ErrName}, {act("start", "ann"), api.ErrName}, {act("stop", "ann"), api.ErrName}, {act("unlock", "ann"), api.ErrName}, {act("stop", " "), api.ErrName}, {act("stop", "1"), api.ErrName}, {act("start", long), api.ErrName},
}

func TestP93Kinds(t *testing.T) {
	want := names("energize", "enter", "fix", "free", "isolate", "issue", "leave", "lock", "prove", "return", "start", "stop", "unlock")
	got := work.Kinds()
	check(t, "Kinds", results(got), want)
	got[0] = "x"
	check(t, "Kinds after a change", results(work.Kinds()), want)
}

func TestP93Locks(t *testing.T) {
	for _, l := range []work.Lock{{}, work.Begin(), entered(), lockOf("l", nil, nil), lockOf("y", nil, nil), lockOf("d", nil, nil), lockOf("dp", nil, nil), lockOf("lydp", nil, nil), lockOf("lydp", numbered(16), numbered(16)), lockOf("lydp", numbered(16), nil), lockOf("lydp", names("B", "a", "a1", "ab", fitting), names("a", fitting))} {
		check(t, "CheckLock", results(work.CheckLock(l)), api.OK)
	}
	for _, row := range wrongLocks {
		check(t, "CheckLock", results(work.CheckLock(row.l), row.l), row.e, row.l)
	}
	possible := 0
	for _, l := range allLocks() {
		e := api.ErrState
		if slowPossible(l) {
			e = api.OK
			possible++
		}
		check(t, "CheckLock", results(work.CheckLock(l), l), e, l)
	}
	check(t, "possible locks: 1 that runs, 12 without keys, 8 with keys", results(possible), 21)
	check(t, "Begin", results(work.Begin()), work.Lock{Running: true})
}

func TestP93Acts(t *testing.T) {
	for _, kind := range work.Kinds() {
		for _, name := range names("", "ann", fitting) {
			e := api.ErrName
			if isNamed(kind) == (name != "") {
				e = api.OK
			}
			check(t, "CheckAct", results(work.CheckAct(act(kind, name)), kind, name), e, kind, name)
		}
	}
	for _, row := range wrongActs {
		check(t, "CheckAct", results(work.CheckAct(row.a), row.a), row.e, row.a)
	}
}

func TestP93Rules(t *testing.T) {
	secured, full := lockOf("lydp", nil, nil), lockOf("lydp", numbered(16), nil)
	held := lockOf("lydp", names("ann", "bob"), names("bob"))
	for _, row := range []struct {
		l    work.Lock
		a    work.Act
		want int
	}{
		{work.Begin(), act("lock"), 4}, {work.Begin(), act("issue", "ann"), 6}, {work.Begin(), act("stop"), 0}, {work.Begin(), act("start"), 2}, {work.Begin(), act("fix"), 4}, {work.Begin(), act("isolate"), 4}, {work.Begin(), act("prove"), 4}, {work.Begin(), act("unlock"), 5}, {work.Begin(), act("free"), 5}, {work.Begin(), act("energize"), 5}, {work.Begin(), act("enter", "ann"), 7}, {work.Begin(), act("leave", "ann"), 7}, {work.Begin(), act("return", "ann"), 7},
		{work.Lock{}, act("stop"), 3}, {work.Lock{}, act("start"), 0}, {work.Lock{}, act("lock"), 0}, {work.Lock{}, act("fix"), 0}, {work.Lock{}, act("isolate"), 0}, {work.Lock{}, act("prove"), 5}, {work.Lock{}, act("unlock"), 5}, {work.Lock{}, act("free"), 5}, {work.Lock{}, act("energize"), 5}, {work.Lock{}, act("issue", "ann"), 6},
		{lockOf("l", nil, nil), act("start"), 2}, {lockOf("y", nil, nil), act("start"), 2}, {lockOf("d", nil, nil), act("start"), 2}, {lockOf("dp", nil, nil), act("start"), 2}, {lockOf("l", nil, nil), act("lock"), 5}, {lockOf("l", nil, nil), act("unlock"), 0}, {lockOf("y", nil, nil), act("fix"), 5}, {lockOf("y", nil, nil), act("free"), 0}, {lockOf("d", nil, nil), act("isolate"), 5}, {lockOf("d", nil, nil), act("energize"), 0}, {lockOf("dp", nil, nil), act("energize"), 0}, {lockOf("d", nil, nil), act("prove"), 0}, {lockOf("dp", nil, nil), act("prove"), 5}, {lockOf("ly", nil, nil), act("prove"), 5},
		{secured, act("issue", "ann"), 0}, {lockOf("lyd", nil, nil), act("issue", "ann"), 6}, {lockOf("ldp", nil, nil), act("issue", "ann"), 6}, {lockOf("ydp", nil, nil), act("issue", "ann"), 6}, {lockOf("ly", nil, nil), act("issue", "ann"), 6}, {secured, act("energize"), 0}, {secured, act("free"), 0}, {secured, act("unlock"), 0}, {secured, act("start"), 2}, {secured, act("stop"), 3},
		{entered(), act("free"), 1}, {entered(), act("start"), 1}, {entered(), act("unlock"), 1}, {entered(), act("energize"), 1}, {entered(), act("return", "ann"), 7}, {entered(), act("leave", "ann"), 0}, {entered(), act("enter", "ann"), 7}, {entered(), act("issue", "ann"), 6}, {entered(), act("issue", "bob"), 0}, {entered(), act("stop"), 3}, {entered(), act("lock"), 5}, {entered(), act("fix"), 5}, {entered(), act("isolate"), 5}, {entered(), act("prove"), 5}, {entered(), act("enter", "bob"), 7}, {entered(), act("leave", "bob"), 7}, {entered(), act("return", "bob"), 7},
		{held, act("enter", "ann"), 0}, {held, act("return", "ann"), 0}, {held, act("leave", "ann"), 7}, {held, act("enter", "bob"), 7}, {held, act("return", "bob"), 7}, {held, act("leave", "bob"), 0}, {held, act("issue", "Ann"), 0}, {full, act("issue", "ann"), 6}, {full, act("issue", "n10"), 6}, {full, act("return", "n25"), 0}, {full, act("enter", "n10"), 0}, {lockOf("lydp", numbered(15), nil), act("issue", "ann"), 0},
	} {
		check(t, "Allowed", results(work.Allowed(row.l, row.a)), row.want, api.OK)
		if row.want > 0 {
			check(t, "Next", results(work.Next(row.l, row.a)), noLock, api.ErrRule)
		} else {
			check(t, "Next", results(work.Next(row.l, row.a)), slowNext(row.l, row.a), api.OK)
		}
	}
}

func TestP93Next(t *testing.T) {
	for _, row := range []struct {
		l    work.Lock
		a    work.Act
		want work.Lock
	}{
		{work.Begin(), act("stop"), work.Lock{}}, {work.Lock{}, act("start"), work.Begin()}, {work.Lock{}, act("lock"), lockOf("l", nil, nil)}, {work.Lock{}, act("fix"), lockOf("y", nil, nil)}, {work.Lock{}, act("isolate"), lockOf("d", nil, nil)}, {lockOf("lyd", nil, nil), act("prove"), lockOf("lydp", nil, nil)}, {lockOf("lydp", nil, nil), act("energize"), lockOf("ly", nil, nil)}, {lockOf("lydp", nil, nil), act("free"), lockOf("ldp", nil, nil)}, {lockOf("lydp", nil, nil), act("unlock"), lockOf("ydp", nil, nil)}, {lockOf("ly", nil, nil), act("isolate"), lockOf("lyd", nil, nil)},
		{lockOf("lydp", names("b"), nil), act("issue", "a"), lockOf("lydp", names("a", "b"), nil)}, {lockOf("lydp", names("b"), nil), act("issue", "c"), lockOf("lydp", names("b", "c"), nil)}, {lockOf("lydp", names("a", "c"), names("c")), act("issue", "b"), lockOf("lydp", names("a", "b", "c"), names("c"))}, {lockOf("lydp", names("a", "c"), nil), act("issue", "B"), lockOf("lydp", names("B", "a", "c"), nil)}, {lockOf("lydp", numbered(15), nil), act("issue", "n25"), lockOf("lydp", numbered(16), nil)},
		{lockOf("lydp", names("a", "b", "c"), names("a")), act("enter", "c"), lockOf("lydp", names("a", "b", "c"), names("a", "c"))}, {lockOf("lydp", names("a", "b", "c"), names("a", "c")), act("enter", "b"), lockOf("lydp", names("a", "b", "c"), names("a", "b", "c"))}, {lockOf("lydp", names("a", "b", "c"), names("a", "b", "c")), act("leave", "b"), lockOf("lydp", names("a", "b", "c"), names("a", "c"))}, {lockOf("lydp", names("a", "b", "c"), names("a", "c")), act("return", "b"), lockOf("lydp", names("a", "c"), names("a", "c"))}, {lockOf("lydp", names("a"), nil), act("return", "a"), lockOf("lydp", nil, nil)}, {entered(), act("leave", "ann"), lockOf("lydp", names("ann"), nil)},
	} {
		check(t, "Next", results(work.Next(row.l, row.a)), row.want, api.OK)
	}
}

func TestP93Permitted(t *testing.T) {
	for _, row := range []struct {
		l    work.Lock
		name string
		want []string
	}{
		{work.Begin(), "ann", names("stop")}, {work.Lock{}, "ann", names("fix", "isolate", "lock", "start")}, {lockOf("lyd", nil, nil), "ann", names("energize", "free", "prove", "unlock")}, {lockOf("lydp", nil, nil), "ann", names("energize", "free", "issue", "unlock")}, {lockOf("lydp", names("ann"), nil), "ann", names("enter", "return")}, {lockOf("lydp", names("ann"), nil), "bob", names("issue")}, {entered(), "ann", names("leave")}, {entered(), "bob", names("issue")}, {lockOf("lydp", numbered(16), nil), "ann", nil}, {lockOf("lydp", numbered(16), nil), "n17", names("enter", "return")},
	} {
		check(t, "Acts", results(work.Acts(row.l, row.name)), row.want, api.OK)
	}
}

func TestP93Errors(t *testing.T) {
	for _, row := range wrongLocks {
		check(t, "Allowed", results(work.Allowed(row.l, act(""))), 0, row.e)
		check(t, "Next", results(work.Next(row.l, act(""))), noLock, row.e)
		check(t, "Acts", results(work.Acts(row.l, "")), noNames, row.e)
		check(t, "Release", results(work.Release(row.l)), noActs, row.e)
	}
	for _, row := range wrongActs {
		for _, l := range []work.Lock{work.Begin(), entered()} {
			check(t, "Allowed", results(work.Allowed(l, row.a)), 0, row.e)
			check(t, "Next", results(work.Next(l, row.a)), noLock, row.e)
		}
	}
	for _, name := range names("", "1", "a b", long, "\xff") {
		check(t, "Acts", results(work.Acts(entered(), name)), noNames, api.ErrName)
	}
}

// TestP93AllLocks tries all acts in all locks with at most two keys.
func TestP93AllLocks(t *testing.T) {
	for _, l := range allLocks() {
		if !slowPossible(l) {
			continue
		}
		for _, name := range names("a", "b", "c") {
			var permitted []string
			for _, kind := range work.Kinds() {
				a := act(kind)
				if isNamed(kind) {
					a.Name = name
				}
				want := slowRule(l, a)
				check(t, "Allowed", results(work.Allowed(l, a)), want, api.OK)
				if want > 0 {
					check(t, "Next", results(work.Next(l, a)), noLock, api.ErrRule)
					continue
				}
				permitted = append(permitted, kind)
				check(t, "Next", results(work.Next(l, a)), slowNext(l, a), api.OK)
			}
			check(t, "Acts", results(work.Acts(l, name)), permitted, api.OK)
		}
	}
}

func TestP93Replay(t *testing.T) {
	entering := slices.Clip(append(securing(), act("issue", "ann"), act("enter", "ann")))
	turns := slices.Repeat(acts("stop", "start"), 500)
	for _, row := range []struct {
		l      []work.Act
		want   work.Lock
		number int
		e      api.Errno
	}{
		{nil, work.Begin(), 0, api.OK}, {acts("stop"), noLock, 0, api.OK}, {acts("stop", "start"), work.Begin(), 0, api.OK}, {securing(), lockOf("lydp", nil, nil), 0, api.OK}, {entering, entered(), 0, api.OK}, {turns, work.Begin(), 0, api.OK}, {turns[:999], noLock, 0, api.OK}, {append(entering, act("leave", "ann"), act("return", "ann")), lockOf("lydp", nil, nil), 0, api.OK}, {append(acts("stop", "isolate", "prove", "energize"), acts("isolate")...), lockOf("d", nil, nil), 0, api.OK},
		{append(turns, act("")), noLock, 0, api.ErrMany}, {make([]work.Act, 1001), noLock, 0, api.ErrMany}, {make([]work.Act, 1000), noLock, 1, api.ErrKind},
		{acts("start"), noLock, 1, api.ErrRule}, {acts("stop", "stop"), noLock, 2, api.ErrRule}, {append(entering, act("free")), noLock, 8, api.ErrRule}, {append(entering, act("start"), act("")), noLock, 8, api.ErrRule}, {append(entering, act("return", "ann")), noLock, 8, api.ErrRule}, {append(turns[:999:999], act("stop")), noLock, 1000, api.ErrRule},
		{acts("stop", "", "stop"), noLock, 2, api.ErrKind}, {acts("stop", "issue"), noLock, 2, api.ErrName}, {append(entering, act("stop", "ann")), noLock, 8, api.ErrName}, {acts("start", ""), noLock, 1, api.ErrRule},
	} {
		check(t, "Replay", results(work.Replay(row.l)), row.want, row.number, row.e)
	}
}

func TestP93Release(t *testing.T) {
	start := acts("start")
	for _, row := range []struct {
		l    work.Lock
		want []work.Act
	}{
		{work.Begin(), nil}, {work.Lock{}, start}, {lockOf("l", nil, nil), acts("unlock", "start")}, {lockOf("y", nil, nil), acts("free", "start")}, {lockOf("d", nil, nil), acts("energize", "start")}, {lockOf("dp", nil, nil), acts("energize", "start")}, {lockOf("ly", nil, nil), acts("free", "unlock", "start")}, {lockOf("lydp", nil, nil), acts("energize", "free", "unlock", "start")},
		{entered(), append([]work.Act{act("leave", "ann"), act("return", "ann")}, acts("energize", "free", "unlock", "start")...)}, {lockOf("lydp", names("a", "b", "c"), names("a", "c")), append([]work.Act{act("leave", "a"), act("leave", "c"), act("return", "a"), act("return", "b"), act("return", "c")}, acts("energize", "free", "unlock", "start")...)},
	} {
		check(t, "Release", results(work.Release(row.l)), row.want, api.OK)
	}
	most, e := work.Release(lockOf("lydp", numbered(16), numbered(16)))
	check(t, "the longest release", results(len(most), most[15], most[16], e), 36, act("leave", "n25"), act("return", "n10"), api.OK)
}
