package grid_test

import (
	"math"
	"math/rand"
	"slices"
	"testing"

	"nacelle/api"
	"nacelle/grid"
)

// badLines are lines with an error, and their errors.
var badLines = []struct {
	l     []grid.Line
	nodes int
	e     api.Errno
}{
	{make([]grid.Line, 9), 0, api.ErrRange}, {nil, 0, api.ErrRange}, {nil, -1, api.ErrRange}, {nil, 10, api.ErrRange}, {nil, math.MinInt, api.ErrRange}, {nil, math.MaxInt, api.ErrRange}, {make([]grid.Line, 9), 9, api.ErrMany}, {slices.Repeat([]grid.Line{line(0, 1, 1)}, 9), 2, api.ErrMany},
	{[]grid.Line{line(0, 3, 1)}, 3, api.ErrUnknown}, {[]grid.Line{line(3, 0, 1)}, 3, api.ErrUnknown}, {[]grid.Line{line(-1, 0, 1)}, 3, api.ErrUnknown}, {[]grid.Line{line(0, -1, 1)}, 3, api.ErrUnknown}, {[]grid.Line{line(3, 3, 1)}, 3, api.ErrUnknown}, {[]grid.Line{line(0, 1, 1)}, 1, api.ErrUnknown}, {[]grid.Line{line(math.MinInt, math.MaxInt, 1)}, 9, api.ErrUnknown}, {[]grid.Line{line(0, 9, nans)}, 9, api.ErrUnknown},
	{[]grid.Line{line(2, 2, 1)}, 3, api.ErrRing}, {[]grid.Line{line(0, 0, nans)}, 1, api.ErrRing}, {[]grid.Line{line(0, 1, 17)}, 3, api.ErrRange}, {[]grid.Line{line(0, 1, -1)}, 3, api.ErrRange}, {[]grid.Line{line(0, 1, 17i)}, 3, api.ErrRange}, {[]grid.Line{line(0, 1, complex(-1, nan))}, 3, api.ErrForm},
	{[]grid.Line{line(0, 1, 1), line(1, 1, 1), line(0, 5, 1)}, 3, api.ErrRing}, {[]grid.Line{line(0, 1, 1), line(0, 5, 1), line(1, 1, 1)}, 3, api.ErrUnknown}, {[]grid.Line{line(0, 1, 17), line(1, 1, 1)}, 3, api.ErrRange},
}

// star and row are trees of 9 nodes: all lines begin at the node 0, or they follow one another.
func star() []grid.Line {
	var out []grid.Line
	for node := 8; node > 0; node-- {
		out = append(out, line(node, 0, complex(float64(node), -1)))
	}
	return out
}

func row() []grid.Line {
	var out []grid.Line
	for node := range 8 {
		out = append(out, line(node, node+1, complex(float64(node), 1)))
	}
	return out
}

func TestP62CheckLines(t *testing.T) {
	for _, good := range []struct {
		l     []grid.Line
		nodes int
	}{{nil, 1}, {nil, 9}, {ring(), 3}, {ring(), 9}, {star(), 9}, {row(), 9}, {slices.Repeat([]grid.Line{line(1, 0, 0)}, 8), 2}, {[]grid.Line{line(0, 1, complex(zero, -16))}, 2}, {[]grid.Line{line(0, 1, 16+16i)}, 2}} {
		check(t, "CheckLines", grid.CheckLines(good.l, good.nodes), api.OK)
	}
	for _, row := range badLines {
		check(t, "CheckLines", grid.CheckLines(row.l, row.nodes), row.e)
	}
	for _, row := range badNumbers {
		check(t, "CheckLines", grid.CheckLines([]grid.Line{line(0, 1, 1), line(1, 0, row.x)}, 2), row.e)
	}
}

func TestP62Switch(t *testing.T) {
	for _, row := range []struct {
		l    []grid.Line
		in   []complex128
		want []int
	}{
		{ring(), []complex128{1, 1}, []int{0, 2}}, {ring(), []complex128{1, 0}, []int{0, 1}}, {ring(), []complex128{0, 1}, []int{0, 2}}, {ring(), []complex128{0, 0}, []int{0, 1}}, {ring(), []complex128{1, -1}, []int{0, 1}}, {ring(), []complex128{1i, 64}, []int{0, 2}}, {ring(), []complex128{3, -3i}, []int{0, 2}}, {nil, nil, nil}, {star(), make([]complex128, 8), []int{0, 1, 2, 3, 4, 5, 6, 7}},
		{[]grid.Line{line(0, 1, 2), line(1, 0, 1), line(0, 1, 1)}, []complex128{1}, []int{1}}, {[]grid.Line{line(0, 1, 1+16i), line(1, 0, 1-16i)}, []complex128{1}, []int{0}}, {[]grid.Line{line(0, 1, 0.0625), line(1, 0, 0)}, []complex128{0.0625}, []int{1}}, {[]grid.Line{line(1, 2, 1), line(0, 2, 1), line(0, 1, 1)}, []complex128{1, 1}, []int{1, 2}},
		{[]grid.Line{line(2, 3, 1), line(1, 3, 1), line(1, 2, 1), line(0, 1, 1), line(0, 2, 4)}, []complex128{1, 1, 1}, []int{1, 3, 4}}, {[]grid.Line{line(0, 1, 1), line(1, 2, 1), line(2, 3, 1), line(3, 0, 1)}, []complex128{1, 1, 1}, []int{0, 1, 3}},
	} {
		got, e := grid.Switch(row.l, row.in)
		check(t, "Switch", e, api.OK)
		checkList(t, "Switch", got, row.want)
	}
}

func TestP62SwitchErrors(t *testing.T) {
	for _, row := range []struct {
		l  []grid.Line
		in []complex128
		e  api.Errno
	}{
		{slices.Repeat([]grid.Line{line(-1, 0, 1)}, 9), slices.Repeat([]complex128{nans}, 9), api.ErrShape}, {nil, make([]complex128, 100), api.ErrShape}, {make([]grid.Line, 9), []complex128{nans}, api.ErrMany}, {[]grid.Line{line(0, 2, 1)}, []complex128{nans}, api.ErrUnknown}, {[]grid.Line{line(0, 0, 1)}, []complex128{nans}, api.ErrRing}, {[]grid.Line{line(0, 1, 17)}, []complex128{nans}, api.ErrRange}, {[]grid.Line{line(0, 0, 1)}, nil, api.ErrRing}, {[]grid.Line{line(0, 1, 1)}, nil, api.ErrUnknown},
		{nil, []complex128{nans}, api.ErrForm}, {nil, []complex128{0, 64.0625, nans}, api.ErrRange}, {ring(), []complex128{1, 0.01i}, api.ErrRange},
		{nil, []complex128{1}, api.ErrInfeasible}, {ring(), []complex128{1, 1, 1}, api.ErrInfeasible}, {[]grid.Line{line(1, 2, 1), line(2, 1, 1)}, []complex128{0, 0}, api.ErrInfeasible}, {[]grid.Line{line(0, 1, 1), line(2, 3, 1), line(3, 2, 1)}, []complex128{0, 0, 0}, api.ErrInfeasible}, {ring(), make([]complex128, 8), api.ErrInfeasible},
	} {
		got, e := grid.Switch(row.l, row.in)
		check(t, "Switch", e, row.e)
		checkZero(t, "Switch", got)
	}
	for _, row := range badNumbers {
		got, e := grid.Switch(ring(), []complex128{0, row.x})
		check(t, "Switch", e, row.e)
		checkZero(t, "Switch", got)
	}
}

func TestP62Cables(t *testing.T) {
	for _, row := range []struct {
		l      []grid.Line
		nodes  int
		cables []grid.Cable
		order  []int
	}{
		{nil, 1, nil, []int{0}}, {[]grid.Line{line(0, 1, 1), line(0, 2, 2i)}, 3, []grid.Cable{cable(0, 1), cable(0, 2i)}, []int{0, 1, 2}}, {[]grid.Line{line(1, 2, 1), line(2, 0, 3)}, 3, []grid.Cable{cable(0, 3), cable(1, 1)}, []int{0, 2, 1}}, {row(), 9, []grid.Cable{cable(0, 1i), cable(1, 1+1i), cable(2, 2+1i), cable(3, 3+1i), cable(4, 4+1i), cable(5, 5+1i), cable(6, 6+1i), cable(7, 7+1i)}, []int{0, 1, 2, 3, 4, 5, 6, 7, 8}}, {star()[5:], 4, []grid.Cable{cable(0, 1-1i), cable(0, 2-1i), cable(0, 3-1i)}, []int{0, 1, 2, 3}},
		{[]grid.Line{line(3, 1, 1), line(0, 3, 2), line(4, 0, 3), line(2, 4, 4)}, 5, []grid.Cable{cable(0, 2), cable(1, 1), cable(0, 3), cable(3, 4)}, []int{0, 3, 1, 4, 2}}, {[]grid.Line{line(4, 0, 1), line(4, 3, 2), line(3, 2, 3), line(2, 1, 4)}, 5, []grid.Cable{cable(0, 1), cable(1, 2), cable(2, 3), cable(3, 4)}, []int{0, 4, 3, 2, 1}}, {[]grid.Line{line(1, 4, 1), line(2, 0, 2), line(3, 0, 3), line(4, 2, 4)}, 5, []grid.Cable{cable(0, 2), cable(0, 3), cable(1, 4), cable(3, 1)}, []int{0, 2, 3, 4, 1}},
	} {
		cables, order, e := grid.Cables(row.l, row.nodes)
		check(t, "Cables", e, api.OK)
		checkList(t, "Cables", cables, row.cables)
		checkList(t, "Cables: the order", order, row.order)
		check(t, "CheckNetwork", grid.CheckNetwork(cables), api.OK)
	}
}

func TestP62CablesErrors(t *testing.T) {
	rows := slices.Clone(badLines)
	for _, row := range []struct {
		l     []grid.Line
		nodes int
	}{{nil, 2}, {ring(), 3}, {ring(), 4}, {ring()[:2], 2 + 2}, {[]grid.Line{line(0, 1, 1), line(1, 0, 1)}, 2}, {[]grid.Line{line(0, 1, 1), line(1, 0, 1)}, 3}, {[]grid.Line{line(1, 2, 1), line(2, 1, 1)}, 3}, {[]grid.Line{line(1, 2, 1), line(2, 3, 1), line(3, 1, 1)}, 4}, {slices.Concat(ring(), []grid.Line{line(0, 3, 1)}), 5}} {
		bad := rows[0]
		bad.l, bad.nodes, bad.e = row.l, row.nodes, api.ErrRing
		rows = append(rows, bad)
	}
	for _, row := range rows {
		cables, order, e := grid.Cables(row.l, row.nodes)
		check(t, "Cables", e, row.e)
		checkZero(t, "Cables", cables, order)
	}
}

func TestP62SwitchOtherwise(t *testing.T) {
	r := rand.New(rand.NewSource(2))
	found := 0
	for range 1000 {
		count := r.Intn(7)
		l, in := randomLines(r, count+1), randomNumbers(r, count, 2)
		if r.Intn(2) == 0 {
			for i := range in {
				in[i] = complex(float64(r.Intn(2)), 0)
			}
		}
		want, ok := slowSwitch(l, in)
		got, e := grid.Switch(l, in)
		if !ok {
			check(t, "Switch", e, api.ErrInfeasible)
			checkZero(t, "Switch", got)
			continue
		}
		found++
		check(t, "Switch", e, api.OK)
		checkList(t, "Switch", got, want)
	}
	check(t, "enough trees were found", found > 300, true)
}

// checkOrder reports an order of nodes, or cables, that are not those of a tree.
func checkOrder(t *testing.T, l []grid.Line, cables []grid.Cable, order []int) {
	t.Helper()
	check(t, "the first node", order[0], 0)
	for k, c := range cables {
		least, parent, impedance := math.MaxInt, 0, complex128(0)
		for _, x := range l {
			for _, ends := range [][2]int{{x.A, x.B}, {x.B, x.A}} {
				if !slices.Contains(order[:k+1], ends[0]) && slices.Contains(order[:k+1], ends[1]) && ends[0] < least {
					least, parent, impedance = ends[0], slices.Index(order, ends[1]), x.Impedance
				}
			}
		}
		check(t, "the next node", order[k+1], least)
		check(t, "its cable", c, cable(parent, impedance))
	}
}

func TestP62CablesOtherwise(t *testing.T) {
	r := rand.New(rand.NewSource(3))
	trees := 0
	for range 3000 {
		nodes := 1 + r.Intn(6)
		l := randomLines(r, nodes)
		if r.Intn(2) == 0 {
			l = l[:min(len(l), nodes-1)]
		}
		cables, order, e := grid.Cables(l, nodes)
		if _, ok := slowLoss(l, make([]complex128, nodes-1)); !ok {
			check(t, "Cables", e, api.ErrRing)
			checkZero(t, "Cables", cables, order)
			continue
		}
		trees++
		check(t, "Cables", e, api.OK)
		check(t, "cables", len(cables), nodes-1)
		check(t, "nodes", len(order), nodes)
		checkOrder(t, l, cables, order)
	}
	check(t, "enough trees", trees > 300, true)
}
