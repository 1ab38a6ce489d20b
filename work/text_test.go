package work_test

import (
	"math/rand"
	"slices"
	"strings"
	"testing"

	"nacelle/api"
	"nacelle/work"
)

// lines returns so many times the same line.
func lines(count int, line string) string { return strings.Repeat(line+"\n", count) }

func TestP94Texts(t *testing.T) {
	named := []work.Act{act("enter", "ann"), act("issue", "A_1"), act("leave", fitting), act("return", "z")}
	for _, row := range []struct {
		l    []work.Act
		want string
	}{
		{nil, ""}, {acts("stop"), "stop\n"}, {securing(), "stop\nlock\nfix\nisolate\nprove\n"}, {acts("energize", "free", "start", "unlock", "start"), "energize\nfree\nstart\nunlock\nstart\n"}, {named, "enter ann\nissue A_1\nleave " + fitting + "\nreturn z\n"}, {slices.Repeat([]work.Act{act("return", fitting)}, 1000), lines(1000, "return "+fitting)},
	} {
		check(t, "Print", results(work.Print(row.l)), row.want, api.OK)
		check(t, "Parse", results(work.Parse(row.want)), row.l, 0, api.OK)
	}
	check(t, "Print of too many acts", results(work.Print(make([]work.Act, 1001))), "", api.ErrMany)
	for _, row := range wrongActs {
		check(t, "Print", results(work.Print(append(securing(), row.a, act("x")))), "", row.e)
	}
	check(t, "the first error of Print", results(work.Print(acts("enter", "x"))), "", api.ErrName)
}

func TestP94ParseErrors(t *testing.T) {
	for _, row := range []struct {
		s string
		i int
		e api.Errno
	}{
		{"\n", 0, api.ErrSyntax}, {"stop", 0, api.ErrSyntax}, {"stop\nstart", 1, api.ErrSyntax}, {"stop\n\n", 1, api.ErrSyntax}, {"stop\n\nstop\n", 1, api.ErrSyntax}, {"stop\nstop\nx", 2, api.ErrSyntax}, {" \n", 0, api.ErrSyntax}, {" stop\n", 0, api.ErrSyntax}, {"stop \n", 0, api.ErrSyntax}, {"enter ann \n", 0, api.ErrSyntax}, {"enter  ann\n", 0, api.ErrSyntax}, {" enter ann\n", 0, api.ErrSyntax}, {"enter ann bob\n", 0, api.ErrSyntax}, {"x\nenter ann bob\n", 1, api.ErrSyntax}, {"enter \n", 0, api.ErrSyntax}, {"a b c d\n", 0, api.ErrSyntax}, {"  \n", 0, api.ErrSyntax},
		{"x\n", 1, api.ErrKind}, {"stop\nx\nenter\n", 3, api.ErrKind}, {"stop\nenter\nx\n", 3, api.ErrName}, {"stop ann\n", 1, api.ErrName}, {"enter 1\n", 1, api.ErrName}, {"stop\r\n", 1, api.ErrKind}, {"stop\tann\n", 1, api.ErrKind}, {"enter\tann\n", 1, api.ErrKind}, {"enter ann\r\n", 1, api.ErrName}, {"\xff\n", 1, api.ErrKind}, {"enter \xff\n", 1, api.ErrName}, {"\x00 \x00\n", 1, api.ErrKind}, {"return " + long + "\n", 1, api.ErrName}, {"Stop\n", 1, api.ErrKind},
		{lines(1001, "stop"), 1001, api.ErrMany}, {lines(1001, "x"), 1001, api.ErrMany}, {lines(1001, "stop") + "stop", 1001, api.ErrSyntax}, {lines(1000, "x"), 1000, api.ErrKind}, {lines(500000, "x"), 500000, api.ErrMany},
		{strings.Repeat("x", 1000000), 0, api.ErrSyntax}, {strings.Repeat("x", 999999) + "\n", 1, api.ErrKind}, {strings.Repeat("x", 1000000) + "\n", 0, api.ErrLong}, {strings.Repeat("\n", 1000001), 0, api.ErrLong}, {strings.Repeat("\n", 1000000), 0, api.ErrSyntax},
	} {
		check(t, "Parse of "+row.s[:min(len(row.s), 40)], results(work.Parse(row.s)), noActs, row.i, row.e)
	}
}

// TestP94ParseAnyway: acts are parsed, also if no history has them.
func TestP94ParseAnyway(t *testing.T) {
	check(t, "Parse", results(work.Parse("start\nenter ann\nstart\n")), []work.Act{act("start"), act("enter", "ann"), act("start")}, 0, api.OK)
	check(t, "Print", results(work.Print([]work.Act{act("start"), act("enter", "ann")})), "start\nenter ann\n", api.OK)
}

// TestP94ParseOtherwise: a text in which a byte is changed is the text of what is parsed, if anything is.
func TestP94ParseOtherwise(t *testing.T) {
	r := rand.New(rand.NewSource(4))
	parsed := 0
	for range 5000 {
		var l []work.Act
		for range 1 + r.Intn(4) {
			l = append(l, randomAct(r, names("ann", "bob", "A_1")))
		}
		s, e := work.Print(l)
		check(t, "Print", results(e), api.OK)
		changed := []byte(s)
		changed[r.Intn(len(s))] = "abn_1A \nx"[r.Intn(9)]
		got, i, e := work.Parse(string(changed))
		if e != api.OK {
			check(t, "the index of an error", results(0 <= i && i <= strings.Count(string(changed), "\n")+1, got), true, noActs)
			continue
		}
		parsed++
		check(t, "the text of what was parsed", results(work.Print(got)), string(changed), api.OK)
	}
	check(t, "some texts are parsed", results(parsed > 100), true)
}
