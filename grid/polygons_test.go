package grid_test

import (
	"math"
	"math/rand"
	"slices"
	"testing"

	"nacelle/api"
	"nacelle/grid"
)

// square is as large as a polygon can be.
func square() []api.Point {
	return points(-10000, -10000, 10000, -10000, 10000, 10000, -10000, 10000)
}

// house is the third polygon of the chapter's example 5.
func house() []api.Point { return points(0, 0, 3, 0, 3, 1, 1, 3, 0, 3) }

// badPolygons are corners with an error, and their errors.
var badPolygons = []struct {
	l []api.Point
	e api.Errno
}{
	{make([]api.Point, 17), api.ErrMany}, {slices.Repeat([]api.Point{at(10001, 0)}, 17), api.ErrMany}, {nil, api.ErrShape}, {points(0, 0, 20000, 0), api.ErrShape}, {points(0, 0), api.ErrShape},
	{points(0, 0, 10001, 0, 0, 1), api.ErrRange}, {points(-10001, 0, 0, 0, 0, 1), api.ErrRange}, {points(0, 0, 1, 0, 0, 10001), api.ErrRange}, {points(0, -10001, 1, 0, 0, 1), api.ErrRange}, {points(0, 0, 0, 0, math.MinInt, 0), api.ErrRange}, {points(0, 0, 0, 0, 0, math.MaxInt), api.ErrRange},
	{points(2, 0, 0, 2, 0, 0), api.ErrOrder}, {points(0, 2, 0, 0, 2, 0), api.ErrOrder}, {points(0, 0, 0, 2, 2, 0), api.ErrOrder}, {points(1, 0, 1, 1, 0, 1, 0, 0), api.ErrOrder}, {points(0, 1, 0, 0, 1, 0, 1, 1), api.ErrOrder}, {points(0, 0, 0, 1, 1, 1, 1, 0), api.ErrOrder},
	{points(0, 0, 1, 0, 2, 0, 0, 2), api.ErrOrder}, {points(0, 0, 2, 0, 1, 1, 0, 2), api.ErrOrder}, {points(0, 0, 2, 0, 0, 2, 0, 1), api.ErrOrder}, {points(0, 0, 4, 0, 1, 1, 0, 4), api.ErrOrder}, {points(0, 0, 2, 0, 4, 0), api.ErrOrder}, {points(0, 0, 1, 1, 2, 2, 3, 3), api.ErrOrder}, {make([]api.Point, 3), api.ErrOrder}, {make([]api.Point, 16), api.ErrOrder}, {points(0, 0, 0, 0, 2, 0, 0, 2), api.ErrOrder}, {points(0, 0, 2, 0, 2, 0, 0, 2), api.ErrOrder}, {points(0, 0, 2, 0, 0, 2, 0, 0), api.ErrOrder},
	{slices.Concat(unit(), unit()), api.ErrOrder}, {slices.Concat(triangle(), triangle(), triangle()), api.ErrOrder}, {points(0, 0, 2, 2, 2, 0, 0, 2), api.ErrOrder}, {points(0, 0, 6, 4, -2, 4, 4, 0, 2, 7), api.ErrOrder}, {points(0, 0, 4, 0, 4, 4, 2, 1, 0, 4), api.ErrOrder}, {points(0, 0, 2, 0, 0, 2, 2, 0), api.ErrOrder},
}

func TestP64CheckPolygon(t *testing.T) {
	for _, good := range [][]api.Point{triangle(), unit(), house(), square(), sixteen(1), moved(sixteen(1666), 0, -10000), points(0, 0, 1, 0, 10000, 1), points(0, 0, 4, 0, 6, 4, 2, 7, -2, 4), points(0, -1, 1, 0, 0, 1, -1, 0)} {
		check(t, "CheckPolygon", grid.CheckPolygon(good), api.OK)
	}
	for _, row := range badPolygons {
		check(t, "CheckPolygon", grid.CheckPolygon(row.l), row.e)
	}
}

func TestP64Inside(t *testing.T) {
	for _, row := range []struct {
		l     []api.Point
		in    []api.Point
		notIn []api.Point
	}{
		{triangle(), points(0, 0, 2, 0, 0, 2, 1, 1, 1, 0, 0, 1), points(2, 1, 1, 2, -1, 0, 0, -1, 3, 0, 0, 3, -1, 1, 2, 2, 10000, -10000, -10000, 10000)}, {square(), points(0, 0, 10000, 10000, -10000, 5, 5, -10000, 9999, -9999), nil}, {house(), points(2, 2, 1, 3, 3, 1, 0, 3, 1, 1), points(3, 2, 2, 3, 0, 4, -1, 3)}, {sixteen(1), points(0, 0, 1, 0, 2, 1, 0, 9, 1, 9, -4, 4, -4, 5, 5, 4, -1, 1, 4, 7), points(-1, 0, 2, 0, 5, 3, -5, 4, 5, 6, 2, 9, -1, 9, -4, 6)}, {points(0, 0, 1, 0, 10000, 1), points(0, 0, 1, 0, 10000, 1), points(2, 0, 9999, 1, 5000, 1, 1, 1)},
	} {
		for _, p := range row.in {
			got, e := grid.Inside(row.l, p)
			check(t, "Inside", e, api.OK)
			check(t, "Inside", got, true)
		}
		for _, p := range row.notIn {
			got, e := grid.Inside(row.l, p)
			check(t, "Inside", e, api.OK)
			check(t, "Inside", got, false)
		}
	}
	for _, p := range points(10001, 0, -10001, 0, 0, 10001, 0, -10001, math.MinInt, 0, 0, math.MaxInt) {
		got, e := grid.Inside(triangle(), p)
		check(t, "Inside", e, api.ErrRange)
		checkZero(t, "Inside", got)
	}
}

func TestP64Sum(t *testing.T) {
	for _, row := range []struct{ a, b, want []api.Point }{
		{triangle(), points(0, 0, 1, 0, 0, 1), points(0, 0, 3, 0, 0, 3)}, {triangle(), unit(), house()}, {unit(), unit(), points(0, 0, 2, 0, 2, 2, 0, 2)}, {triangle(), moved(triangle(), -5, 7), points(-5, 7, -1, 7, -5, 11)}, {unit(), points(0, -1, 1, 0, 0, 1, -1, 0), points(0, -1, 1, -1, 2, 0, 2, 1, 1, 2, 0, 2, -1, 1, -1, 0)}, {sixteen(1), sixteen(2), sixteen(3)}, {points(0, 0, 1, 1, 0, 2), points(0, 0, 2, 1, 1, 1), points(0, 0, 2, 1, 3, 2, 2, 3, 1, 3, 0, 2)},
		{points(-5000, -5000, 5000, -5000, 0, 5000), points(-5000, -5000, 5000, -5000, 0, 5000), points(-10000, -10000, 10000, -10000, 0, 10000)},
	} {
		got, e := grid.Sum(row.a, row.b)
		check(t, "Sum", e, api.OK)
		checkList(t, "Sum", got, row.want)
		got, e = grid.Sum(row.b, row.a)
		check(t, "Sum", e, api.OK)
		checkList(t, "Sum the other way round", got, row.want)
	}
}

func TestP64SumErrors(t *testing.T) {
	flat := points(0, 0, 5, 1, 4, 2) // whose first edge has a direction that no edge of sixteen has
	for _, row := range []struct {
		a, b []api.Point
		e    api.Errno
	}{
		{square(), triangle(), api.ErrLarge}, {triangle(), square(), api.ErrLarge}, {points(0, 0, 10000, 0, 0, 1), points(0, 0, 1, 0, 0, 1), api.ErrLarge}, {points(-10000, 0, 0, 0, 0, 1), points(-1, 0, 1, 0, 0, 1), api.ErrLarge}, {points(0, 0, 1, 0, 0, 10000), points(0, 0, 1, 0, 0, 1), api.ErrLarge}, {points(0, -10000, 1, 0, 0, 1), points(0, -1, 1, 0, 0, 1), api.ErrLarge},
		{sixteen(1), flat, api.ErrMany}, {sixteen(1), moved(flat, 9994, 0), api.ErrLarge}, {moved(sixteen(1), 5000, 0), moved(flat, 4990, 0), api.ErrMany}, {nil, points(0, 0), api.ErrShape}, {make([]api.Point, 17), nil, api.ErrMany},
	} {
		got, e := grid.Sum(row.a, row.b)
		check(t, "Sum", e, row.e)
		checkZero(t, "Sum", got)
	}
}

func TestP64Range(t *testing.T) {
	for _, row := range []struct {
		l    []api.Point
		y    int
		want [2]api.Ratio
	}{
		{house(), 2, [2]api.Ratio{ratio(0, 1), ratio(2, 1)}}, {house(), 0, [2]api.Ratio{ratio(0, 1), ratio(3, 1)}}, {house(), 1, [2]api.Ratio{ratio(0, 1), ratio(3, 1)}}, {house(), 3, [2]api.Ratio{ratio(0, 1), ratio(1, 1)}}, {triangle(), 2, [2]api.Ratio{ratio(0, 1), ratio(0, 1)}}, {square(), 0, [2]api.Ratio{ratio(-10000, 1), ratio(10000, 1)}}, {square(), -10000, [2]api.Ratio{ratio(-10000, 1), ratio(10000, 1)}}, {square(), 10000, [2]api.Ratio{ratio(-10000, 1), ratio(10000, 1)}},
		{points(0, 0, 5, 1, 4, 4), 1, [2]api.Ratio{ratio(1, 1), ratio(5, 1)}}, {points(0, 0, 5, 1, 4, 4), 0, [2]api.Ratio{ratio(0, 1), ratio(0, 1)}}, {points(0, 0, 5, 1, 4, 4), 2, [2]api.Ratio{ratio(2, 1), ratio(14, 3)}}, {points(0, 0, 2, 3, -5, 7), 2, [2]api.Ratio{ratio(-10, 7), ratio(4, 3)}}, {points(0, 0, 2, 3, -5, 7), 6, [2]api.Ratio{ratio(-30, 7), ratio(-13, 4)}}, {points(0, -7, 6, -1, 1, 0), -3, [2]api.Ratio{ratio(4, 7), ratio(4, 1)}}, {points(-10000, -10000, 10000, 9999, -9999, 10000), 9999, [2]api.Ratio{ratio(-199980001, 20000), ratio(10000, 1)}},
	} {
		got, e := grid.Range(row.l, row.y)
		check(t, "Range", e, api.OK)
		check(t, "Range", got, row.want)
	}
	for _, row := range []struct {
		y int
		e api.Errno
	}{{-1, api.ErrNone}, {4, api.ErrNone}, {10000, api.ErrNone}, {-10000, api.ErrNone}, {10001, api.ErrRange}, {-10001, api.ErrRange}, {math.MaxInt, api.ErrRange}, {math.MinInt, api.ErrRange}} {
		got, e := grid.Range(house(), row.y)
		check(t, "Range", e, row.e)
		checkZero(t, "Range", got)
	}
}

func TestP64Errors(t *testing.T) {
	for _, row := range badPolygons {
		inside, e := grid.Inside(row.l, at(10001, 0))
		check(t, "Inside", e, row.e)
		first, e := grid.Sum(row.l, nil)
		check(t, "Sum", e, row.e)
		second, e := grid.Sum(square(), row.l)
		check(t, "Sum", e, row.e)
		span, e := grid.Range(row.l, 10001)
		check(t, "Range", e, row.e)
		checkZero(t, "of a bad polygon", inside, first, second, span)
	}
}

func TestP64CheckPolygonOtherwise(t *testing.T) {
	r := rand.New(rand.NewSource(5))
	good := 0
	for range 20000 {
		var l []api.Point
		for range 3 + r.Intn(4) {
			l = append(l, at(r.Intn(5), r.Intn(5)))
		}
		if r.Intn(2) == 0 {
			l = randomPolygon(r, 5)
			i, j := r.Intn(len(l)), r.Intn(len(l))
			l[i], l[j] = l[j], l[i]
		}
		want := api.ErrOrder
		if slowOrdered(l) {
			want = api.OK
			good++
		}
		check(t, "CheckPolygon", grid.CheckPolygon(l), want)
	}
	check(t, "enough polygons", good > 2000, true)
}

func TestP64Otherwise(t *testing.T) {
	r := rand.New(rand.NewSource(6))
	for range 500 {
		most := []int{3, 10, 5000}[r.Intn(3)]
		a, b := randomPolygon(r, most), randomPolygon(r, most)
		check(t, "CheckPolygon", grid.CheckPolygon(a), api.OK)
		for range 20 {
			p := at(number(r, -most, most), number(r, -most, most))
			inside, e := grid.Inside(a, p)
			check(t, "Inside", e, api.OK)
			check(t, "Inside", inside, slowInside(a, p))
			span, e := grid.Range(a, p.Y)
			want := slowRange(a, p.Y)
			if want == nil {
				check(t, "Range", e, api.ErrNone)
				continue
			}
			check(t, "Range", e, api.OK)
			for i, x := range span {
				check(t, "Range", x, ratio(int(want[i].Num().Int64()), int(want[i].Denom().Int64())))
			}
		}
		sum, e := grid.Sum(a, b)
		want := slowSum(a, b)
		if len(want) > 16 {
			check(t, "Sum", e, api.ErrMany)
			continue
		}
		check(t, "Sum", e, api.OK)
		checkList(t, "Sum", sum, want)
	}
}
