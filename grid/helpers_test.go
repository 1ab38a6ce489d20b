package grid_test

import (
	"math"
	"math/big"
	"math/rand"
	"reflect"
	"slices"
	"testing"

	"nacelle/api"
	"nacelle/grid"
)

var (
	nan  = math.NaN()
	inf  = math.Inf(1)
	zero = math.Copysign(0, -1)
	nans = complex(nan, nan)
)

// check reports a result that is not the expected one.
func check[T comparable](t *testing.T, what string, got, want T) {
	t.Helper()
	if got != want {
		t.Errorf("%s: got %v, want %v", what, got, want)
	}
}

// checkList reports a list that is not the expected one; empty lists are equal.
func checkList[T comparable](t *testing.T, what string, got, want []T) {
	t.Helper()
	if !slices.Equal(got, want) {
		t.Errorf("%s: got %v, want %v", what, got, want)
	}
}

// checkZero reports a result beside an error that is not the zero value.
func checkZero(t *testing.T, what string, results ...any) {
	t.Helper()
	for _, r := range results {
		v := reflect.ValueOf(r)
		if v.Kind() == reflect.Slice && v.Len() == 0 {
			continue
		}
		if !v.IsZero() {
			t.Errorf("%s: got %v beside an error", what, r)
		}
	}
}

// checkSigns reports a 0 with a sign.
func checkSigns(t *testing.T, what string, numbers ...complex128) {
	t.Helper()
	for _, x := range numbers {
		for _, part := range []float64{real(x), imag(x)} {
			check(t, what+": a 0 with a sign", part == 0 && math.Signbit(part), false)
		}
	}
}

// badNumbers are what no impedance, current or voltage and no space vector is, and the errors.
var badNumbers = []struct {
	x complex128
	e api.Errno
}{
	{complex(nan, 0), api.ErrForm}, {complex(0, nan), api.ErrForm}, {complex(inf, 0), api.ErrForm}, {complex(0, inf), api.ErrForm}, {complex(-inf, 0), api.ErrForm}, {complex(0, -inf), api.ErrForm}, {complex(0.01, nan), api.ErrForm}, {complex(nan, 5000), api.ErrForm},
	{0.03125, api.ErrRange}, {0.03125i, api.ErrRange}, {5000, api.ErrRange}, {-5000, api.ErrRange}, {5000i, api.ErrRange}, {-5000i, api.ErrRange}, {complex(math.MaxFloat32, 0), api.ErrRange}, {complex(0, math.SmallestNonzeroFloat32), api.ErrRange},
}

func cable(parent int, impedance complex128) grid.Cable {
	return grid.Cable{Parent: parent, Impedance: impedance}
}

func line(a, b int, impedance complex128) grid.Line {
	return grid.Line{A: a, B: b, Impedance: impedance}
}

// network and in are those of the chapter's examples.
func network() []grid.Cable { return []grid.Cable{cable(0, 1), cable(1, 0.5+1i), cable(1, 2)} }

func in() []complex128 { return []complex128{1, 2, 1i} }

// ring is the lines of the chapter's examples.
func ring() []grid.Line { return []grid.Line{line(0, 1, 1), line(1, 2, 1), line(0, 2, 1)} }

// points returns points by their coordinates.
func points(numbers ...int) []api.Point {
	var out []api.Point
	for i := 0; i < len(numbers); i += 2 {
		out = append(out, api.Point{X: numbers[i], Y: numbers[i+1]})
	}
	return out
}

func at(x, y int) api.Point { return api.Point{X: x, Y: y} }

func ratio(n, d int) api.Ratio { return api.Ratio{Num: n, Den: d} }

// triangle and unit are polygons of the chapter's examples.
func triangle() []api.Point { return points(0, 0, 2, 0, 0, 2) }

func unit() []api.Point { return points(0, 0, 1, 0, 1, 1, 0, 1) }

// sixteen returns a polygon with 16 corners, so many times 9 wide and high.
func sixteen(times int) []api.Point {
	var out []api.Point
	var c api.Point
	for _, step := range points(1, 0, 2, 1, 1, 1, 1, 2, 0, 1, -1, 2, -1, 1, -2, 1, -1, 0, -2, -1, -1, -1, -1, -2, 0, -1, 1, -2, 1, -1, 2, -1) {
		out = append(out, c)
		c = at(c.X+times*step.X, c.Y+times*step.Y)
	}
	return out
}

// moved returns corners that are moved.
func moved(l []api.Point, x, y int) []api.Point {
	var out []api.Point
	for _, p := range l {
		out = append(out, at(p.X+x, p.Y+y))
	}
	return out
}

// code is the code of the chapter's examples.
func code() grid.Code {
	return grid.Code{Corners: points(0, 0, 4, 0, 0, 4), Low: 90, High: 110, Ramp: 2, Levels: levels(0, 20, 2, 60)}
}

// levels returns levels by their ticks and volts.
func levels(numbers ...int) []grid.Level {
	var out []grid.Level
	for i := 0; i < len(numbers); i += 2 {
		out = append(out, grid.Level{Ticks: numbers[i], Volts: numbers[i+1]})
	}
	return out
}

// marks returns what is true: an x for each entry that is.
func marks(s string) []bool {
	var out []bool
	for _, mark := range s {
		out = append(out, mark == 'x')
	}
	return out
}

// number returns a random number, often one of the ends.
func number(r *rand.Rand, least, most int) int {
	switch r.Intn(6) {
	case 0:
		return least
	case 1:
		return most
	}
	return least + r.Intn(most-least+1)
}

// randomNumber returns a complex number of sixteenths, with the least real part and the greatest parts.
func randomNumber(r *rand.Rand, least, most int) complex128 {
	return complex(float64(number(r, 16*least, 16*most))/16, float64(number(r, -16*most, 16*most))/16)
}

func randomNumbers(r *rand.Rand, count, most int) []complex128 {
	var out []complex128
	for range count {
		out = append(out, randomNumber(r, -most, most))
	}
	return out
}

// randomNetwork returns at most 15 cables.
func randomNetwork(r *rand.Rand) []grid.Cable {
	var out []grid.Cable
	for i := range r.Intn(16) {
		out = append(out, cable(number(r, 0, i), randomNumber(r, 0, 16)))
	}
	return out
}

// randomLines returns at most 8 lines between some nodes, with few different impedances, so that trees are as good as others.
func randomLines(r *rand.Rand, nodes int) []grid.Line {
	var out []grid.Line
	for range r.Intn(9) {
		if a, b := r.Intn(nodes), r.Intn(nodes); a != b {
			out = append(out, line(a, b, complex(float64(r.Intn(4))/2, float64(r.Intn(5)-2))))
		}
	}
	return out
}

// randomPolygon returns a polygon with coordinates up to a number.
func randomPolygon(r *rand.Rand, most int) []api.Point {
	for {
		var l []api.Point
		for range 3 + r.Intn(20) {
			l = append(l, at(number(r, -most, most), number(r, -most, most)))
		}
		if out := slowAround(l); len(out) >= 3 && len(out) <= 16 {
			return out
		}
	}
}

// randomCode returns a code with a small polygon.
func randomCode(r *rand.Rand) grid.Code {
	out := grid.Code{Corners: randomPolygon(r, 12), Low: number(r, 0, 199), Ramp: number(r, 0, 20)}
	out.High = number(r, out.Low+1, 200)
	ticks, volts := 0, 0
	for range 1 + r.Intn(8) {
		volts = number(r, volts, out.Low)
		out.Levels = append(out.Levels, grid.Level{Ticks: ticks, Volts: volts})
		ticks += 1 + r.Intn(3)
	}
	return out
}

// randomTrace returns voltages, many of which are below Low.
func randomTrace(r *rand.Rand, c grid.Code) []int {
	var out []int
	for range r.Intn(40) {
		if r.Intn(4) == 0 {
			out = append(out, number(r, c.Low, 200))
		} else {
			out = append(out, number(r, 0, c.Low))
		}
	}
	return out
}

// gauss is a complex number in integers.
type gauss [2]int

// whole returns a complex number in parts.
func whole(x complex128, parts float64) gauss {
	return gauss{int(real(x) * parts), int(imag(x) * parts)}
}

// number returns the complex number of integers that count parts.
func (a gauss) number(parts float64) complex128 {
	return complex(float64(a[0])/parts, float64(a[1])/parts)
}

func (a gauss) plus(b gauss) gauss { return gauss{a[0] + b[0], a[1] + b[1]} }

func (a gauss) times(b gauss) gauss { return gauss{a[0]*b[0] - a[1]*b[1], a[0]*b[1] + a[1]*b[0]} }

func (a gauss) squared() int { return a[0]*a[0] + a[1]*a[1] }

// slowCurrent returns the current of a cable in sixteenths: that of its node, and those of the cables behind it.
func slowCurrent(l []grid.Cable, in []complex128, cable int) gauss {
	sum := whole(in[cable], 16)
	for i, c := range l {
		if c.Parent == cable+1 {
			sum = sum.plus(slowCurrent(l, in, i))
		}
	}
	return sum
}

// slowVoltage returns the voltage of a node in parts of 1/256.
func slowVoltage(l []grid.Cable, in []complex128, root complex128, node int) gauss {
	if node == 0 {
		return whole(root, 256)
	}
	c := l[node-1]
	return slowVoltage(l, in, root, c.Parent).plus(whole(c.Impedance, 16).times(slowCurrent(l, in, node-1)))
}

// slowLosses returns the losses in parts of 1/4096.
func slowLosses(l []grid.Cable, in []complex128) gauss {
	var sum gauss
	for i, c := range l {
		sum = sum.plus(whole(c.Impedance, 16).times(gauss{slowCurrent(l, in, i).squared(), 0}))
	}
	return sum
}

// reached returns the nodes that lines connect with the node 0.
func reached(l []grid.Line) map[int]bool {
	out := map[int]bool{0: true}
	for range l {
		for _, x := range l {
			if out[x.A] || out[x.B] {
				out[x.A], out[x.B] = true, true
			}
		}
	}
	return out
}

// slowLoss returns the loss of lines that are a tree, in parts of 1/4096, or false: a line carries the currents of those nodes that are cut off without it.
func slowLoss(l []grid.Line, in []complex128) (int, bool) {
	if len(l) != len(in) || len(reached(l)) != len(in)+1 {
		return 0, false
	}
	loss := 0
	for i, x := range l {
		connected := reached(slices.Concat(l[:i], l[i+1:]))
		var current gauss
		for node, y := range in {
			if !connected[node+1] {
				current = current.plus(whole(y, 16))
			}
		}
		loss += int(16*real(x.Impedance)) * current.squared()
	}
	return loss, true
}

// chosen returns those lines whose indices are in a set, and these indices.
func chosen(l []grid.Line, set int) ([]grid.Line, []int) {
	var lines []grid.Line
	var indices []int
	for i, x := range l {
		if set>>i&1 == 1 {
			lines = append(lines, x)
			indices = append(indices, i)
		}
	}
	return lines, indices
}

// slowSwitch returns the best tree, or false: of all sets that lose least, the first list.
func slowSwitch(l []grid.Line, in []complex128) ([]int, bool) {
	var best []int
	least, found := 0, false
	for set := range 1 << len(l) {
		lines, indices := chosen(l, set)
		loss, ok := slowLoss(lines, in)
		if ok && (!found || loss < least || loss == least && slices.Compare(indices, best) < 0) {
			best, least, found = indices, loss, true
		}
	}
	return best, found
}

// slowSequences returns the sequences of four space vectors, with powers of -i by repeated multiplication.
func slowSequences(v [4]complex64) [4]complex64 {
	var out [4]complex64
	for k := range 4 {
		var sum gauss
		for n, x := range v {
			term := whole(complex128(x), 16)
			for range k * n {
				term = term.times(gauss{0, -1})
			}
			sum = sum.plus(term)
		}
		out[k] = complex64(sum.number(16))
	}
	return out
}

// cross returns a number above 0 if a point lies to the left of the way from one to another, 0 if it lies on it.
func cross(from, to, p api.Point) int {
	return (to.X-from.X)*(p.Y-from.Y) - (p.X-from.X)*(to.Y-from.Y)
}

// slowOrdered reports whether corners go round as those of a polygon: all other ones lie to the left of each way to the next one.
func slowOrdered(l []api.Point) bool {
	for i, p := range l {
		next := l[(i+1)%len(l)]
		for j, q := range l {
			if j != i && j != (i+1)%len(l) && cross(p, next, q) <= 0 {
				return false
			}
		}
		if first := l[0]; p.Y < first.Y || p.Y == first.Y && p.X < first.X {
			return false
		}
	}
	return true
}

// slowInside reports whether a point is in a polygon: if so, the triangles that it makes with all edges are as large as the polygon.
func slowInside(l []api.Point, p api.Point) bool {
	area, all := 0, 0
	for i, c := range l {
		next := l[(i+1)%len(l)]
		area += cross(l[0], c, next)
		all += max(cross(p, c, next), -cross(p, c, next))
	}
	return all == area
}

// slowAround returns the corners of the least polygon around points, by going from each corner to that point which has no other one to the right.
func slowAround(l []api.Point) []api.Point {
	first := l[0]
	for _, p := range l {
		if p.Y < first.Y || p.Y == first.Y && p.X < first.X {
			first = p
		}
	}
	out := []api.Point{first}
	for {
		corner := out[len(out)-1]
		next := corner
		for _, p := range l {
			side := cross(corner, next, p)
			farther := max(p.X-corner.X, corner.X-p.X)+max(p.Y-corner.Y, corner.Y-p.Y) > max(next.X-corner.X, corner.X-next.X)+max(next.Y-corner.Y, corner.Y-next.Y)
			if next == corner || side < 0 || side == 0 && farther {
				next = p
			}
		}
		if next == first || len(out) > len(l) {
			return out
		}
		out = append(out, next)
	}
}

// slowSum returns the polygon around all sums of corners.
func slowSum(a, b []api.Point) []api.Point {
	var all []api.Point
	for _, p := range a {
		all = append(all, moved(b, p.X, p.Y)...)
	}
	return slowAround(all)
}

// slowRange returns the least and the greatest X at a Y, or nil: where a way between any two corners passes it.
func slowRange(l []api.Point, y int) []*big.Rat {
	var out []*big.Rat
	for _, p := range l {
		for _, q := range l {
			if p.Y > y || q.Y < y || p.Y == q.Y {
				continue
			}
			x := big.NewRat(int64((q.X-p.X)*(y-p.Y)), int64(q.Y-p.Y))
			out = append(out, x.Add(x, big.NewRat(int64(p.X), 1)))
		}
	}
	if out == nil {
		return nil
	}
	slices.SortFunc(out, func(a, b *big.Rat) int { return a.Cmp(b) })
	return []*big.Rat{out[0], out[len(out)-1]}
}

// slowRide returns the first index at which a farm is off, and must not be, or -1, by looking back to the begin of each dip.
func slowRide(c grid.Code, volts []int, on []bool) int {
	for i := range volts {
		if on[i] {
			continue
		}
		begin := i
		for begin >= 0 && volts[begin] < c.Low {
			begin--
		}
		permitted := false
		for j := begin + 1; j <= i; j++ {
			level := 0
			for _, l := range c.Levels {
				if l.Ticks <= j-begin-1 {
					level = l.Volts
				}
			}
			permitted = permitted || volts[j] < level
		}
		if !permitted {
			return i
		}
	}
	return -1
}
