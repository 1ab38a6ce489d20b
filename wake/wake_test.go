package wake_test

import (
	"math"
	"math/rand"
	"slices"
	"testing"

	"nacelle/api"
	"nacelle/site"
	"nacelle/wake"
)

func TestP21CheckWake(t *testing.T) {
	for _, row := range []struct {
		name string
		f    func(k *wake.Wake)
		e    api.Errno
	}{
		{"as it is", func(k *wake.Wake) {}, api.OK},
		{"greatest", func(k *wake.Wake) { k.Rule = "greatest" }, api.OK},
		{"squares", func(k *wake.Wake) { k.Rule = "squares" }, api.OK},
		{"no rule", func(k *wake.Wake) { k.Rule = "" }, api.ErrKind},
		{"another rule", func(k *wake.Wake) { k.Rule = "Sum" }, api.ErrKind},
		{"no rule and no deficits", func(k *wake.Wake) { k.Rule, k.Deficits = "x", nil }, api.ErrKind},
		{"no deficits", func(k *wake.Wake) { k.Deficits = nil }, api.ErrEmpty},
		{"nothing", func(k *wake.Wake) { k.Deficits, k.Widths = nil, nil }, api.ErrEmpty},
		{"32", func(k *wake.Wake) { k.Deficits, k.Widths = make([]int, 32), make([]int, 32) }, api.OK},
		{"33", func(k *wake.Wake) { k.Deficits, k.Widths = make([]int, 33), make([]int, 33) }, api.ErrMany},
		{"33 and no widths", func(k *wake.Wake) { k.Deficits, k.Widths = make([]int, 33), nil }, api.ErrMany},
		{"a width less", func(k *wake.Wake) { k.Widths = []int{0} }, api.ErrShape},
		{"a width more", func(k *wake.Wake) { k.Widths = []int{0, 1, 2} }, api.ErrShape},
		{"a width less and a deficit", func(k *wake.Wake) { k.Deficits[0], k.Widths = 257, []int{0} }, api.ErrShape},
		{"deficit 256", func(k *wake.Wake) { k.Deficits = []int{256, 256} }, api.OK},
		{"deficit 257", func(k *wake.Wake) { k.Deficits[0] = 257 }, api.ErrRange},
		{"deficit 0", func(k *wake.Wake) { k.Deficits = []int{0, 0} }, api.OK},
		{"deficit -1", func(k *wake.Wake) { k.Deficits[1] = -1 }, api.ErrRange},
		{"deficit rises", func(k *wake.Wake) { k.Deficits[1] = 129 }, api.ErrOrder},
		{"deficit rises out of its range", func(k *wake.Wake) { k.Deficits[1] = 257 }, api.ErrRange},
		{"deficit rises before one out of its range", func(k *wake.Wake) { k.Deficits, k.Widths = []int{1, 2, 257}, make([]int, 3) }, api.ErrOrder},
		{"extreme deficits", func(k *wake.Wake) { k.Deficits = []int{math.MaxInt, math.MinInt} }, api.ErrRange},
		{"width 100", func(k *wake.Wake) { k.Widths = []int{100, 100} }, api.OK},
		{"width 101", func(k *wake.Wake) { k.Widths[1] = 101 }, api.ErrRange},
		{"width -1", func(k *wake.Wake) { k.Widths[0] = -1 }, api.ErrRange},
		{"width falls", func(k *wake.Wake) { k.Widths = []int{1, 0} }, api.ErrOrder},
		{"width falls out of its range", func(k *wake.Wake) { k.Widths = []int{1, -1} }, api.ErrRange},
		{"deficit before width", func(k *wake.Wake) { k.Deficits[1], k.Widths[0] = 129, -1 }, api.ErrOrder},
	} {
		k := w()
		row.f(&k)
		check(t, row.name, wake.CheckWake(k), row.e)
	}
}

func TestP21Relation(t *testing.T) {
	for _, row := range []struct {
		sector, i, j, steps, offset int
	}{
		{0, 0, 1, 1, 0}, {0, 0, 2, 2, 1}, {0, 1, 2, 1, 1}, {0, 1, 0, -1, 0}, {0, 2, 0, -2, 1}, {4, 1, 0, 1, 0},
		{1, 0, 2, 0, 3},
		{1, 2, 0, -1, 3}, // the sum is -1: half of it is -1, rounded down
		{2, 0, 2, -1, 2}, {6, 0, 2, 1, 2}, {3, 2, 0, 1, 1}, {7, 0, 2, 1, 1}, {5, 0, 1, -1, 1}, {1, 0, 1, 0, 1},
	} {
		steps, offset, e := wake.Relation(s(), row.sector, row.i, row.j)
		check(t, "Relation", e, api.OK)
		if steps != row.steps || offset != row.offset {
			t.Errorf("Relation of %v to %v in sector %v: got %v and %v, want %v and %v", row.i, row.j, row.sector, steps, offset, row.steps, row.offset)
		}
	}
	wide := site.Site{Name: "w", Least: 1, Turbines: []site.Turbine{{Name: "a", At: at(-1000, -1000)}, {Name: "b", At: at(1000, 1000)}}}
	steps, offset, _ := wake.Relation(wide, 5, 0, 1)
	check(t, "steps across", steps, 2000)
	check(t, "offset across", offset, 0)
	steps, offset, _ = wake.Relation(wide, 3, 0, 1)
	check(t, "steps aside", steps, 0)
	check(t, "offset aside", offset, 4000)
}

func TestP21RelationErrors(t *testing.T) {
	none := site.Site{}
	for _, row := range []struct {
		layout       site.Site
		sector, i, j int
		e            api.Errno
	}{
		{none, 8, 3, 3, api.ErrName}, {s(), 8, 3, 3, api.ErrRange}, {s(), -1, 0, 1, api.ErrRange}, {s(), math.MaxInt, 0, 1, api.ErrRange}, {s(), 0, 3, 0, api.ErrUnknown}, {s(), 0, 0, 3, api.ErrUnknown},
		{s(), 0, -1, 0, api.ErrUnknown}, {s(), 0, 0, -1, api.ErrUnknown}, {s(), 0, 3, 3, api.ErrUnknown}, {s(), 0, math.MinInt, math.MaxInt, api.ErrUnknown}, {s(), 0, 2, 2, api.ErrTwice}, {row(0), 0, 0, 0, api.ErrUnknown},
	} {
		steps, offset, e := wake.Relation(row.layout, row.sector, row.i, row.j)
		check(t, "Relation", e, row.e)
		checkZero(t, "Relation", steps, offset)
	}
}

func TestP21Deficit(t *testing.T) {
	k := wake.Wake{Rule: "sum", Deficits: []int{256, 128, 0, 0}, Widths: []int{0, 0, 3, 100}}
	for _, row := range []struct{ steps, offset, want int }{
		{1, 0, 256}, {1, 1, 0}, {2, 0, 128}, {2, 1, 0}, {3, 0, 0}, {4, 100, 0}, {5, 0, 0}, {0, 0, 0}, {-1, 0, 0}, {-999999999, 999999999, 0}, {999999999, 0, 0}, {1, -1, 256}, {2, -999999999, 128},
	} {
		n, e := wake.Deficit(k, row.steps, row.offset)
		check(t, "Deficit", e, api.OK)
		check(t, "Deficit", n, row.want)
	}
	wide := wake.Wake{Rule: "sum", Deficits: []int{9, 7}, Widths: []int{2, 100}}
	for _, row := range []struct{ steps, offset, want int }{{1, 2, 9}, {1, 3, 0}, {2, 100, 7}, {2, 101, 0}} {
		n, _ := wake.Deficit(wide, row.steps, row.offset)
		check(t, "Deficit at the width", n, row.want)
	}
	for _, row := range []struct {
		k             wake.Wake
		steps, offset int
		e             api.Errno
	}{
		{wake.Wake{}, 1000000000, 0, api.ErrKind}, {k, 1000000000, 0, api.ErrRange}, {k, -1000000000, 0, api.ErrRange}, {k, 1, 1000000000, api.ErrRange}, {k, 1, -1000000000, api.ErrRange}, {k, math.MinInt, math.MaxInt, api.ErrRange},
	} {
		n, e := wake.Deficit(row.k, row.steps, row.offset)
		check(t, "Deficit", e, row.e)
		checkZero(t, "Deficit", n)
	}
}

func TestP21Order(t *testing.T) {
	for _, row := range []struct {
		sector int
		want   []int
	}{{0, []int{0, 1, 2}}, {4, []int{2, 1, 0}}, {2, []int{2, 0, 1}}, {6, []int{0, 1, 2}}, {1, []int{0, 1, 2}}, {5, []int{1, 2, 0}}, {3, []int{2, 1, 0}}, {7, []int{0, 1, 2}}} {
		l, e := wake.Order(s(), row.sector)
		check(t, "Order", e, api.OK)
		checkList(t, "Order", l, row.want)
	}
	l, _ := wake.Order(row(64), 0)
	check(t, "the last of a row", l[63], 63)
	l, _ = wake.Order(row(64), 2)
	check(t, "the last of those beside one another", slices.IsSorted(l), true)
	l, e := wake.Order(row(0), 0)
	check(t, "Order of nothing", e, api.OK)
	checkList(t, "Order of nothing", l, nil)
	l, e = wake.Order(s(), 8)
	check(t, "Order in no sector", e, api.ErrRange)
	checkZero(t, "Order in no sector", l)
	_, e = wake.Order(site.Site{}, 8)
	check(t, "Order of no site", e, api.ErrName)
}

func TestP21Wakes(t *testing.T) {
	rows, e := wake.Wakes(s(), w(), 0)
	check(t, "Wakes", e, api.OK)
	checkSame(t, "Wakes", rows, [][]int{{0, 0, 0}, {128, 0, 0}, {64, 0, 0}})
	rows, _ = wake.Wakes(s(), w(), 4)
	checkSame(t, "Wakes the other way", rows, [][]int{{0, 128, 64}, {0, 0, 0}, {0, 0, 0}})
	rows[0][1] = 7
	check(t, "a row of its own", rows[1][1], 0)
	rows, e = wake.Wakes(row(0), w(), 0)
	check(t, "Wakes of nothing", e, api.OK)
	check(t, "Wakes of nothing", len(rows), 0)
	rows, _ = wake.Wakes(row(1), w(), 0)
	checkSame(t, "Wakes of one", rows, [][]int{{0}})
}

func TestP21Combined(t *testing.T) {
	l, e := wake.Combined(s(), w(), 0)
	check(t, "Combined", e, api.OK)
	checkList(t, "Combined", l, []int{0, 128, 64})
	for _, row := range []struct {
		rule string
		want []int
	}{
		{"sum", []int{0, 200, 256, 256}}, {"greatest", []int{0, 200, 200, 200}},
		{"squares", []int{0, 200, 219, 225}}, // of 40000, 48100 (219 * 219 = 47961) and 50725 (225 * 225 = 50625)
	} {
		l, _ := wake.Combined(site.Site{Name: "row", Least: 1, Turbines: row4()}, wake.Wake{Rule: row.rule, Deficits: []int{200, 90, 51}, Widths: []int{0, 0, 0}}, 0)
		// the third one has 200 and 90, the fourth one 200, 90 and 51
		checkList(t, "Combined by "+row.rule, l, row.want)
	}
	full := wake.Wake{Rule: "squares", Deficits: []int{256, 23}, Widths: []int{0, 0}}
	l, _ = wake.Combined(row(3), full, 0)
	checkList(t, "Combined above the full one", l, []int{0, 256, 256})
	l, _ = wake.Combined(row(1), w(), 0)
	checkList(t, "Combined of one", l, []int{0})
	l, _ = wake.Combined(row(0), w(), 0)
	checkList(t, "Combined of nothing", l, nil)
}

// row4 returns four turbines in a row.
func row4() []site.Turbine { return row(4).Turbines }

func TestP21Speeds(t *testing.T) {
	for _, row := range []struct {
		speed int
		want  []int
	}{{4, []int{1024, 512, 768}}, {0, []int{0, 0, 0}}, {1, []int{256, 128, 192}}, {50, []int{12800, 6400, 9600}}} {
		l, e := wake.Speeds(s(), w(), 0, row.speed)
		check(t, "Speeds", e, api.OK)
		checkList(t, "Speeds", l, row.want)
	}
	dead := wake.Wake{Rule: "sum", Deficits: []int{256}, Widths: []int{0}}
	l, _ := wake.Speeds(row(2), dead, 0, 50)
	checkList(t, "Speeds in a full wake", l, []int{12800, 0})
}

func TestP21Errors(t *testing.T) {
	bad := wake.Wake{}
	for _, row := range []struct {
		layout        site.Site
		k             wake.Wake
		sector, speed int
		e             api.Errno
	}{
		{site.Site{}, bad, 8, 51, api.ErrName}, {s(), bad, 8, 51, api.ErrKind}, {s(), w(), 8, 51, api.ErrRange}, {s(), w(), -1, 4, api.ErrRange}, {s(), w(), math.MinInt, 4, api.ErrRange},
	} {
		rows, e := wake.Wakes(row.layout, row.k, row.sector)
		check(t, "Wakes", e, row.e)
		checkZero(t, "Wakes", rows)
		l, e := wake.Combined(row.layout, row.k, row.sector)
		check(t, "Combined", e, row.e)
		checkZero(t, "Combined", l)
		l, e = wake.Speeds(row.layout, row.k, row.sector, row.speed)
		check(t, "Speeds", e, row.e)
		checkZero(t, "Speeds", l)
	}
	for _, speed := range []int{-1, 51, math.MinInt, math.MaxInt} {
		l, e := wake.Speeds(s(), w(), 0, speed)
		check(t, "Speeds at no speed", e, api.ErrRange)
		checkZero(t, "Speeds at no speed", l)
	}
}

func TestP21Otherwise(t *testing.T) {
	r := rand.New(rand.NewSource(1))
	for range 300 {
		f := randomFarm(r, r.Intn(10))
		n := len(f.Site.Turbines)
		for sector := range 8 {
			rows, e := wake.Wakes(f.Site, f.Wake, sector)
			check(t, "Wakes", e, api.OK)
			for j := range n {
				for i := range n {
					want := 0
					if i != j {
						steps, offset, _ := wake.Relation(f.Site, sector, i, j)
						want, _ = wake.Deficit(f.Wake, steps, offset)
					}
					check(t, "a deficit", rows[j][i], want)
				}
			}
			combined, _ := wake.Combined(f.Site, f.Wake, sector)
			checkList(t, "Combined", combined, slowCombined(f.Site, f.Wake, sector))
			speeds, _ := wake.Speeds(f.Site, f.Wake, sector, 7)
			for j, d := range combined {
				check(t, "a speed", speeds[j], 7*(256-d))
			}
		}
	}
}

func TestP21Memory(t *testing.T) {
	layout, k := s(), w()
	l, _ := wake.Combined(layout, k, 0)
	rows, _ := wake.Wakes(layout, k, 0)
	l[0], rows[0][0], rows[2][2] = 7, 7, 7
	checkSame(t, "the site", layout, s())
	checkSame(t, "the wake", k, w())
	again, _ := wake.Combined(layout, k, 0)
	checkList(t, "Combined again", again, []int{0, 128, 64})
}
