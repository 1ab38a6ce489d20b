package market_test

import (
	"math/rand"
	"slices"
	"strings"
	"testing"

	"nacelle/api"
	"nacelle/market"
)

func TestP86Texts(t *testing.T) {
	for _, row := range []struct {
		l    []market.Quarter
		want string
	}{
		{nil, ""}, {day()[:1], "20 25 5 1 19\n"}, {day(), "20 25 5 1 19\n20 15 0 0 15\n"}, {[]market.Quarter{{}}, "0 0 0 0 0\n"}, {[]market.Quarter{quarter(1, 2, 3, 4)}, "1 9 2 3 4\n"}, {[]market.Quarter{quarter(6400000, 6400000, 0, 0)}, "6400000 6400000 6400000 0 0\n"},
		{slices.Repeat([]market.Quarter{quarter(6400000, 1000000, 1000000, 4400000)}, 96), lines(96, "6400000 6400000 1000000 1000000 4400000")},
	} {
		check(t, "Print", results(market.Print(row.l)), row.want, api.OK)
		check(t, "Parse", results(market.Parse(row.want)), row.l, 0, api.OK)
	}
	for e, l := range wrongDays() {
		check(t, "Print", results(market.Print(l)), "", e)
	}
	for _, row := range wrongQuarters {
		check(t, "Print", results(market.Print(append(day(), row.q))), "", row.e)
	}
}

func TestP86ParseErrors(t *testing.T) {
	for _, row := range []struct {
		s string
		i int
		e api.Errno
	}{
		{"\n", 0, api.ErrSyntax}, {"0 0 0 0 0", 0, api.ErrSyntax}, {"0 0 0 0 0\n0 0 0 0 0", 1, api.ErrSyntax}, {"0 0 0 0 0\n\n", 1, api.ErrSyntax}, {"0 0 0 0 0\n0 0 0 0 0\nx", 2, api.ErrSyntax}, {"0 0 0 0\n", 0, api.ErrSyntax}, {"0 0 0 0 \n", 0, api.ErrSyntax}, {"0 0 0 0 0 \n", 0, api.ErrSyntax}, {"0 0 0 0 0 0\n", 0, api.ErrSyntax}, {" 0 0 0 0 0\n", 0, api.ErrSyntax}, {"0  0 0 0 0\n", 0, api.ErrSyntax}, {"0\t0 0 0 0\n", 0, api.ErrSyntax}, {"0 0 0 0 0\r\n", 0, api.ErrSyntax}, {"0\n", 0, api.ErrSyntax},
		{"x 0 0 0 0\n", 0, api.ErrSyntax}, {"0 0 0 0 x\n", 0, api.ErrSyntax}, {"00 0 0 0 0\n", 0, api.ErrSyntax}, {"0 0 01 0 0\n", 0, api.ErrSyntax}, {"-1 0 0 0 0\n", 0, api.ErrSyntax}, {"-0 0 0 0 0\n", 0, api.ErrSyntax}, {"+1 0 0 0 0\n", 0, api.ErrSyntax}, {"1.0 0 0 0 0\n", 0, api.ErrSyntax}, {"1000000000 0 0 0 0\n", 0, api.ErrSyntax}, {"0 0 0 0 99999999999999999999\n", 0, api.ErrSyntax}, {"0 0 0 0 \u0662\n", 0, api.ErrSyntax}, {"0 0 0 0 \xff\n", 0, api.ErrSyntax},
		{"999999999 0 0 0 0\n", 1, api.ErrRange}, {"6400001 0 0 0 0\n", 1, api.ErrRange}, {"0 6400001 6400001 0 0\n", 1, api.ErrRange}, {"0 1 0 0 0\n", 1, api.ErrConflict}, {"0 0 0 0 0\n0 3 1 1 2\n0 0 0 0 6400001\n", 3, api.ErrConflict}, {"0 0 0 0 6400001\n0 1 0 0 0\n", 2, api.ErrRange}, {"0 1 0 0 0\nx\n", 1, api.ErrSyntax},
		{lines(97, "0 0 0 0 0"), 97, api.ErrMany}, {lines(97, "0 1 0 0 0"), 97, api.ErrMany}, {lines(409, "0 0 0 0 0") + "0 0 0\n", 409, api.ErrSyntax}, {lines(97, "0 0 0 0 0") + "x", 97, api.ErrSyntax},
		{strings.Repeat("x", 4096), 0, api.ErrSyntax}, {strings.Repeat("x", 4097), 0, api.ErrLong}, {strings.Repeat("\n", 4097), 0, api.ErrLong}, {lines(410, "0 0 0 0 0"), 0, api.ErrLong},
	} {
		check(t, "Parse of "+row.s[:min(len(row.s), 40)], results(market.Parse(row.s)), noQuarters, row.i, row.e)
	}
}

// TestP86ParseOtherwise: a text in which a byte is changed is the text of what is parsed, if anything is.
func TestP86ParseOtherwise(t *testing.T) {
	r := rand.New(rand.NewSource(7))
	parsed := 0
	for range 5000 {
		l, _ := randomDay(r, 1+r.Intn(3))
		s, e := market.Print(l)
		check(t, "Print", results(e), api.OK)
		changed := []byte(s)
		changed[r.Intn(len(s))] = "0123456789- \nx"[r.Intn(14)]
		got, i, e := market.Parse(string(changed))
		if e != api.OK {
			check(t, "the index of an error", results(0 <= i && i <= strings.Count(string(changed), "\n")+1, got), true, noQuarters)
			continue
		}
		parsed++
		check(t, "the text of what was parsed", results(market.Print(got)), string(changed), api.OK)
	}
	check(t, "some texts are parsed", results(parsed > 100), true)
}
