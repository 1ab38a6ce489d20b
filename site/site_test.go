package site_test

import (
	"fmt"
	"math"
	"strings"
	"testing"

	"nacelle/api"
	"nacelle/site"
)

func TestP13Check(t *testing.T) {
	for _, row := range []struct {
		name string
		f    func(s *site.Site)
		e    api.Errno
	}{
		{"as it is", func(s *site.Site) {}, api.OK},
		{"no turbines", func(s *site.Site) { s.Turbines = nil }, api.OK},
		{"no name", func(s *site.Site) { s.Name = "" }, api.ErrName},
		{"no name and no least distance", func(s *site.Site) { s.Name, s.Least = "", 0 }, api.ErrName},
		{"least distance 0", func(s *site.Site) { s.Least = 0 }, api.ErrRange},
		{"least distance 1000", func(s *site.Site) { s.Least, s.Turbines = 1000, s.Turbines[:1] }, api.OK},
		{"least distance 1001", func(s *site.Site) { s.Least, s.Turbines = 1001, s.Turbines[:1] }, api.ErrRange},
		{"least distance and many", func(s *site.Site) { s.Least, s.Turbines = -1, make([]site.Turbine, 65) }, api.ErrRange},
		{"many", func(s *site.Site) { s.Turbines = make([]site.Turbine, 65) }, api.ErrMany},
		{"name of a turbine", func(s *site.Site) { s.Turbines[1].Name = "1" }, api.ErrName},
		{"name and place", func(s *site.Site) { s.Turbines[1] = site.Turbine{Name: "1", At: at(1001, 0)} }, api.ErrName},
		{"x", func(s *site.Site) { s.Turbines[1].At.X = 1001 }, api.ErrRange},
		{"x below", func(s *site.Site) { s.Turbines[1].At.X = -1001 }, api.ErrRange},
		{"y", func(s *site.Site) { s.Turbines[2].At.Y = 1001 }, api.ErrRange},
		{"y below", func(s *site.Site) { s.Turbines[2].At.Y = -1001 }, api.ErrRange},
		{"the edge", func(s *site.Site) { s.Turbines[1].At, s.Turbines[2].At = at(1000, -1000), at(-1000, 1000) }, api.OK},
		{"extreme place", func(s *site.Site) { s.Turbines[0].At = at(math.MinInt, math.MaxInt) }, api.ErrRange},
		{"extreme later place", func(s *site.Site) { s.Turbines[2].At = at(math.MaxInt, math.MinInt) }, api.ErrRange},
		{"twice", func(s *site.Site) { s.Turbines[2].Name = "a" }, api.ErrTwice},
		{"twice and place", func(s *site.Site) { s.Turbines[2] = site.Turbine{Name: "a", At: at(0, 1001)} }, api.ErrRange},
		{"twice and too near", func(s *site.Site) { s.Turbines[2] = site.Turbine{Name: "a"} }, api.ErrTwice},
		{"too near", func(s *site.Site) { s.Turbines[2].At = at(3, 3) }, api.ErrOverlap},
		{"same place", func(s *site.Site) { s.Turbines[1].At = at(0, 0) }, api.ErrOverlap},
		{"too near before a name", func(s *site.Site) { s.Turbines[1].At, s.Turbines[2].Name = at(4, 2), "" }, api.ErrOverlap},
		{"name before too near", func(s *site.Site) { s.Turbines[1].Name, s.Turbines[2].At = "", at(1, 1) }, api.ErrName},
		{"least distance 6", func(s *site.Site) { s.Least = 6 }, api.ErrOverlap},
	} {
		s := north()
		row.f(&s)
		check(t, row.name, site.CheckSite(s), row.e)
		_, e := site.Print(s)
		check(t, row.name+", printed", e, row.e)
	}
	full := site.Site{Name: "full", Least: 1}
	for i := range 64 {
		full.Turbines = append(full.Turbines, site.Turbine{Name: fmt.Sprint("t", i), At: at(i, 0)})
	}
	check(t, "64 turbines", site.CheckSite(full), api.OK)
}

func TestP13Spacing(t *testing.T) {
	n, e := site.Spacing(north())
	check(t, "Spacing", e, api.OK)
	check(t, "Spacing", n, 25)
	wide := site.Site{Name: "w", Least: 1, Turbines: []site.Turbine{{Name: "a", At: at(-1000, -1000)}, {Name: "b", At: at(1000, 1000)}}}
	n, _ = site.Spacing(wide)
	check(t, "Spacing across", n, 8000000)
	for count := range 2 {
		n, e = site.Spacing(site.Site{Name: "x", Least: 1, Turbines: north().Turbines[:count]})
		check(t, "Spacing of too few", e, api.ErrNone)
		check(t, "Spacing of too few", n, 0)
	}
	n, e = site.Spacing(site.Site{})
	check(t, "Spacing of no site", e, api.ErrName)
	check(t, "Spacing of no site", n, 0)
}

func TestP13Turn(t *testing.T) {
	for _, row := range []struct {
		quarters int
		b, c     api.Point
	}{{0, at(6, 0), at(3, 4)}, {1, at(0, -6), at(4, -3)}, {2, at(-6, 0), at(-3, -4)}, {3, at(0, 6), at(-4, 3)}} {
		s := north()
		got, e := site.TurnSite(s, row.quarters)
		check(t, "TurnSite", e, api.OK)
		want := north()
		want.Turbines[1].At, want.Turbines[2].At = row.b, row.c
		checkSite(t, "TurnSite", got, want)
		got.Turbines[0].Name = "other"
		checkSite(t, "the argument of TurnSite", s, north())
	}
	for _, quarters := range []int{-1, 4, math.MinInt, math.MaxInt} {
		s, e := site.TurnSite(north(), quarters)
		check(t, "TurnSite", e, api.ErrRange)
		checkZero(t, "TurnSite", s)
	}
	s, e := site.TurnSite(site.Site{}, 4)
	check(t, "TurnSite of no site", e, api.ErrName)
	checkZero(t, "TurnSite of no site", s)
}

func TestP13Shift(t *testing.T) {
	s := north()
	got, e := site.ShiftSite(s, at(-3, 7))
	check(t, "ShiftSite", e, api.OK)
	checkSite(t, "ShiftSite", got, site.Site{Name: "north", Least: 5, Turbines: []site.Turbine{{Name: "a", At: at(-3, 7)}, {Name: "b", At: at(3, 7)}, {Name: "c", At: at(0, 11)}}})
	checkSite(t, "the argument of ShiftSite", s, north())
	for _, row := range []struct {
		by api.Point
		e  api.Errno
	}{
		{at(0, 0), api.OK}, {at(994, 996), api.OK}, {at(-1000, -1000), api.OK}, {at(995, 0), api.ErrRange}, {at(0, 997), api.ErrRange},
		{at(1001, 0), api.ErrRange}, {at(0, -1001), api.ErrRange}, {at(math.MaxInt, math.MinInt), api.ErrRange},
	} {
		got, e := site.ShiftSite(north(), row.by)
		check(t, "ShiftSite", e, row.e)
		if e != api.OK {
			checkZero(t, "ShiftSite", got)
		}
	}
	_, e = site.ShiftSite(site.Site{Name: "x", Least: 1}, at(1001, 0))
	check(t, "ShiftSite too far without turbines", e, api.ErrRange)
	_, e = site.ShiftSite(site.Site{}, at(1001, 0))
	check(t, "ShiftSite of no site", e, api.ErrName)
	same, _ := site.ShiftSite(s, at(0, 0))
	same.Turbines[0].Name = strings.Repeat("x", 3)
	checkSite(t, "the argument of ShiftSite by nothing", s, north())
}

func TestP13Step(t *testing.T) {
	for sector, want := range []api.Point{at(0, -1), at(-1, -1), at(-1, 0), at(-1, 1), at(0, 1), at(1, 1), at(1, 0), at(1, -1)} {
		p, e := site.Step(sector)
		check(t, "Step", e, api.OK)
		check(t, "Step", p, want)
	}
	for _, sector := range []int{-1, 8, math.MinInt, math.MaxInt} {
		p, e := site.Step(sector)
		check(t, "Step of no sector", e, api.ErrRange)
		check(t, "Step of no sector", p, at(0, 0))
	}
}
