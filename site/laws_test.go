package site_test

import (
	"math/rand"
	"slices"
	"testing"

	"nacelle/api"
	"nacelle/site"
)

func TestP17SpansAreSets(t *testing.T) {
	r := rand.New(rand.NewSource(1))
	for range 300 {
		a, inA := randomSpans(r, 40)
		b, inB := randomSpans(r, 40)
		c, _ := randomSpans(r, 40)
		either, both, alone := make([]bool, 40), make([]bool, 40), make([]bool, 40)
		for q := range 40 {
			either[q], both[q], alone[q] = inA[q] || inB[q], inA[q] && inB[q], inA[q] && !inB[q]
		}
		join, _ := site.Join(a, b)
		meet, _ := site.Meet(a, b)
		minus, _ := site.Minus(a, b)
		checkList(t, "Join", join, spansOf(either))
		checkList(t, "Meet", meet, spansOf(both))
		checkList(t, "Minus", minus, spansOf(alone))
		joined, _ := site.Join(b, a)
		checkList(t, "Join the other way round", joined, join)
		again, _ := site.Join(meet, minus)
		checkList(t, "what is in both, and what is in the first alone", again, a)
		ab, _ := site.Join(meet, c)
		ac, _ := site.Join(a, c)
		bc, _ := site.Join(b, c)
		distributed, _ := site.Meet(ac, bc)
		checkList(t, "the distributive law", ab, distributed)
		n1, _ := site.Total(join)
		n2, _ := site.Total(meet)
		n3, _ := site.Total(a)
		n4, _ := site.Total(b)
		check(t, "the totals", n1+n2, n3+n4)
		all := slices.Concat(a, b)
		r.Shuffle(len(all), func(i, j int) { all[i], all[j] = all[j], all[i] })
		canon, _ := site.Canon(all)
		checkList(t, "Canon", canon, join)
	}
}

func TestP17SitesComeBack(t *testing.T) {
	r := rand.New(rand.NewSource(2))
	for range 100 {
		s := randomSite(r)
		if e := site.CheckSite(s); e != api.OK {
			t.Fatal(e, s)
		}
		spacing, _ := site.Spacing(s)
		turned := s
		for range 4 {
			turned, _ = site.TurnSite(turned, 1)
			n, _ := site.Spacing(turned)
			check(t, "the spacing when turned", n, spacing)
		}
		checkSite(t, "turned four times", turned, s)
		for quarters := range 4 {
			once, _ := site.TurnSite(s, quarters)
			back, _ := site.TurnSite(once, (4-quarters)%4)
			checkSite(t, "turned there and back", back, s)
		}
		by := at(r.Intn(800)-400, r.Intn(800)-400)
		shifted, _ := site.ShiftSite(s, by)
		n, _ := site.Spacing(shifted)
		check(t, "the spacing when shifted", n, spacing)
		back, _ := site.ShiftSite(shifted, at(-by.X, -by.Y))
		checkSite(t, "shifted there and back", back, s)
		text, e := site.Print(s)
		check(t, "Print", e, api.OK)
		parsed, i, e := site.Parse(text)
		check(t, "Parse", e, api.OK)
		check(t, "Parse", i, 0)
		checkSite(t, "a site from its text", parsed, s)
		again, _ := site.Print(parsed)
		check(t, "a text from its site", again, text)
	}
}

// TestP17WindTurnsAlong: the step down the wind of a sector, turned, is the step of the turned sector.
func TestP17WindTurnsAlong(t *testing.T) {
	for sector := range 8 {
		step, _ := site.Step(sector)
		s := site.Site{Name: "n", Least: 1, Turbines: []site.Turbine{{Name: "a"}, {Name: "b", At: step}}}
		var r site.Rose
		r[sector][10] = 1
		for quarters := range 4 {
			turned, _ := site.TurnSite(s, quarters)
			rose, _ := site.TurnRose(r, quarters)
			for to := range 8 {
				if rose[to][10] == 1 {
					down, _ := site.Step(to)
					check(t, "down the turned wind", turned.Turbines[1].At, down)
				}
			}
		}
	}
}

func TestP17RosesTurn(t *testing.T) {
	r := rand.New(rand.NewSource(3))
	var rose site.Rose
	for s := range rose {
		for v := range rose[s] {
			rose[s][v] = r.Intn(40001)
		}
	}
	n, _ := site.Quarters(rose)
	turned := rose
	for range 4 {
		turned, _ = site.TurnRose(turned, 1)
		m, _ := site.Quarters(turned)
		check(t, "the quarters when turned", m, n)
	}
	check(t, "turned four times", turned, rose)
}

func TestP17SpellsGrow(t *testing.T) {
	r := rand.New(rand.NewSource(4))
	for range 100 {
		s := randomSeries(r, 0, 50)
		for least := 1; least <= 3; least++ {
			lower, _ := site.Spells(s, 0, least)
			for level := float32(1); level < 8; level++ {
				higher, e := site.Spells(s, level, least)
				check(t, "Spells", e, api.OK)
				lost, _ := site.Minus(lower, higher)
				checkList(t, "quarters lost at a higher level", lost, nil)
				lower = higher
			}
			all, _ := site.Minus(spans(0, 50), s.Gaps)
			all = slices.DeleteFunc(all, func(x api.Span) bool { return x.To-x.From < least })
			checkList(t, "spells at the highest level", lower, all)
		}
	}
}

func TestP17SeriesAddUp(t *testing.T) {
	r := rand.New(rand.NewSource(5))
	for range 100 {
		a, b := randomSeries(r, 10, 30), randomSeries(r, 40, 20)
		both, e := site.Append(a, b)
		check(t, "Append", e, api.OK)
		check(t, "CheckSeries of what was appended", site.CheckSeries(both), api.OK)
		x, e1 := site.Summary(a)
		y, e2 := site.Summary(b)
		z, e3 := site.Summary(both)
		if e1 != api.OK || e2 != api.OK || e3 != api.OK {
			t.Fatal(e1, e2, e3)
		}
		check(t, "statistics", z, site.Statistics{Count: x.Count + y.Count, Sum: x.Sum + y.Sum, Least: min(x.Least, y.Least), Most: max(x.Most, y.Most)})
		da, db := randomSeries(r, 10, 30), randomSeries(r, 40, 20)
		d, _ := site.Append(da, db)
		first, _ := site.Blown(a, da)
		second, _ := site.Blown(b, db)
		whole, _ := site.Blown(both, d)
		for s := range whole {
			for v := range whole[s] {
				check(t, "roses", whole[s][v], first[s][v]+second[s][v])
			}
		}
		c, e := site.Encode(both)
		check(t, "Encode", e, api.OK)
		back, e := site.Decode(c)
		check(t, "Decode", e, api.OK)
		checkSeries(t, "a series from its stream", back, both)
	}
}
