package control_test

import (
	"math"
	"math/rand"
	"slices"
	"strings"
	"testing"

	"nacelle/api"
	"nacelle/control"
)

func TestP55Texts(t *testing.T) {
	for _, row := range []struct {
		l    []control.Act
		want string
	}{
		{nil, ""}, {history(), "start 0 0 0 -\ntick 10 0 0 -\ntick 10 0 0 -\ntick 10 0 0 -\n"}, {[]control.Act{brake(100, 0), tick(100, 100, 100, 2), tick(9, 10, 99, 1)}, "brake 100 0 0 0\ntick 100 100 100 2\ntick 9 10 99 1\n"}, {[]control.Act{bare("stop"), bare("start"), bare("rest"), bare("repair")}, "stop 0 0 0 -\nstart 0 0 0 -\nrest 0 0 0 -\nrepair 0 0 0 -\n"},
		{slices.Repeat([]control.Act{tick(1, 2, 3, 0)}, 1024), strings.Repeat("tick 1 2 3 0\n", 1024)},
	} {
		s, e := control.Print(row.l)
		check(t, "Print", e, api.OK)
		check(t, "Print", s, row.want)
		l, i, e := control.Parse(row.want)
		check(t, "Parse", e, api.OK)
		check(t, "Parse: index", i, 0)
		checkList(t, "Parse", l, row.l)
	}
}

func TestP55PrintErrors(t *testing.T) {
	for _, row := range []struct {
		l []control.Act
		e api.Errno
	}{
		{make([]control.Act, 1025), api.ErrMany}, {make([]control.Act, 1024), api.ErrKind}, {[]control.Act{bare("stop"), act("x", -1, 0, 0, -1)}, api.ErrKind}, {[]control.Act{tick(-1, 0, 0, -1)}, api.ErrRange}, {[]control.Act{tick(101, 0, 0, -1)}, api.ErrRange}, {[]control.Act{tick(0, -1, 0, -1)}, api.ErrRange}, {[]control.Act{tick(0, 101, 0, -1)}, api.ErrRange}, {[]control.Act{tick(0, 0, -1, -1)}, api.ErrRange}, {[]control.Act{tick(0, 0, 101, -1)}, api.ErrRange}, {[]control.Act{tick(0, 0, 0, -2)}, api.ErrRange}, {[]control.Act{tick(0, 0, 0, 3)}, api.ErrRange},
		{[]control.Act{act("brake", 0, 1, 0, -1)}, api.ErrShape}, {[]control.Act{act("stop", 101, 0, 0, 0)}, api.ErrRange}, {[]control.Act{act("stop", 0, 0, 0, 0)}, api.ErrShape}, {[]control.Act{act("start", 1, 0, 0, -1), bare("x")}, api.ErrShape}, {[]control.Act{bare("x"), act("start", 1, 0, 0, -1)}, api.ErrKind}, {[]control.Act{tick(math.MaxInt, 0, 0, math.MinInt)}, api.ErrRange},
	} {
		s, e := control.Print(row.l)
		check(t, "Print", e, row.e)
		checkZero(t, "Print", s)
	}
}

func TestP55ParseErrors(t *testing.T) {
	for _, row := range []struct {
		s string
		i int
		e api.Errno
	}{
		{"\n", 0, api.ErrSyntax}, {"stop 0 0 0 -", 0, api.ErrSyntax}, {"stop 0 0 0 -\nstop 0 0 0 -", 1, api.ErrSyntax}, {"stop 0 0 0 -\n\n", 1, api.ErrSyntax}, {"stop 0 0 0\n", 0, api.ErrSyntax}, {"stop 0 0 0 - \n", 0, api.ErrSyntax}, {"stop 0 0 0 - -\n", 0, api.ErrSyntax}, {" 0 0 0 -\n", 0, api.ErrSyntax}, {" stop 0 0 0 -\n", 0, api.ErrSyntax}, {"stop  0 0 0 -\n", 0, api.ErrSyntax}, {"stop 0 0 -\n", 0, api.ErrSyntax}, {"stop 0 0 0 0 -\n", 0, api.ErrSyntax}, {"stop\n", 0, api.ErrSyntax}, {"stop 0 0 0 \n", 0, api.ErrSyntax},
		{"tick -1 0 0 -\n", 0, api.ErrSyntax}, {"tick 0 +1 0 -\n", 0, api.ErrSyntax}, {"tick 0 0 x -\n", 0, api.ErrSyntax}, {"tick 1000000000 0 0 -\n", 0, api.ErrSyntax}, {"tick 0 01 0 -\n", 0, api.ErrSyntax}, {"tick 0 0 - -\n", 0, api.ErrSyntax}, {"tick 0 0 0 3\n", 0, api.ErrSyntax}, {"tick 0 0 0 -1\n", 0, api.ErrSyntax}, {"tick 0 0 0 00\n", 0, api.ErrSyntax}, {"tick 0 0 0 --\n", 0, api.ErrSyntax}, {"tick 0 0 0 x\n", 0, api.ErrSyntax}, {"tick 0 0 0 -\r\n", 0, api.ErrSyntax}, {"tick\t0 0 0 -\n", 0, api.ErrSyntax},
		{"x 0 0 0 -\n", 1, api.ErrKind}, {"stop 0 0 0 -\nTick 0 0 0 -\nstop 0 0 0 -\n", 3, api.ErrKind}, {"x 0 0 0 -\nstop\n", 1, api.ErrSyntax}, {"tick 999999999 0 0 -\n", 1, api.ErrRange}, {"tick 101 0 0 -\n", 1, api.ErrRange}, {"tick 0 101 0 -\n", 1, api.ErrRange}, {"tick 0 0 101 -\n", 1, api.ErrRange}, {"stop 0 0 0 0\n", 1, api.ErrShape}, {"brake 0 1 0 0\n", 1, api.ErrShape}, {"start 1 0 0 -\nx 0 0 0 -\n", 2, api.ErrShape}, {"\xff 0 0 0 -\n", 1, api.ErrKind},
		{strings.Repeat("x 0 0 0 -\n", 1025), 1025, api.ErrMany}, {strings.Repeat("x 0 0 0 -\n", 100000), 100000, api.ErrMany}, {strings.Repeat("x 0 0 0 -\n", 100000) + "\n", 0, api.ErrLong}, {strings.Repeat("x 0 0 0 -\n", 1025) + "x", 1025, api.ErrSyntax}, {strings.Repeat("a", 1000000), 0, api.ErrSyntax}, {strings.Repeat("\n", 1000001), 0, api.ErrLong},
	} {
		l, i, e := control.Parse(row.s)
		what := "Parse of " + row.s[:min(len(row.s), 40)]
		check(t, what, e, row.e)
		check(t, what+": index", i, row.i)
		checkZero(t, what, l)
	}
}

func TestP55Otherwise(t *testing.T) {
	r := rand.New(rand.NewSource(7))
	for range 2000 {
		l := []control.Act{randomAct(r, greatest()), randomAct(r, greatest()), randomAct(r, greatest())}
		s, e := control.Print(l)
		check(t, "Print", e, api.OK)
		changed := []byte(s)
		changed[r.Intn(len(s))] = "0123456789- \nabx"[r.Intn(16)]
		got, i, e := control.Parse(string(changed))
		if e != api.OK {
			check(t, "Parse: index", i >= 0 && i <= 4, true)
			continue
		}
		again, e := control.Print(got)
		check(t, "Print", e, api.OK)
		check(t, "the text of what was parsed", again, string(changed))
	}
}
