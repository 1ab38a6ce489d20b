package check_test

import (
	"math"
	"testing"

	"nacelle/api"
	"nacelle/check"
)

func TestFirst(t *testing.T) {
	for _, row := range []struct {
		errors []api.Errno
		want   api.Errno
	}{
		{nil, api.OK}, {[]api.Errno{api.OK}, api.OK}, {[]api.Errno{api.OK, api.ErrName, api.ErrRange}, api.ErrName}, {[]api.Errno{api.ErrRange, api.ErrName}, api.ErrRange},
	} {
		if e := check.First(row.errors...); e != row.want {
			t.Errorf("First of %v: got %v, want %v", row.errors, e, row.want)
		}
	}
}

func TestThat(t *testing.T) {
	if holds, fails := check.That(true, api.ErrName), check.That(false, api.ErrName); holds != api.OK || fails != api.ErrName {
		t.Errorf("That: got %v and %v", holds, fails)
	}
}

func TestRange(t *testing.T) {
	for _, row := range []struct {
		n    int
		want api.Errno
	}{{-1, api.ErrRange}, {0, api.OK}, {7, api.OK}, {8, api.ErrRange}, {math.MinInt, api.ErrRange}, {math.MaxInt, api.ErrRange}} {
		if e := check.Range(row.n, 0, 7); e != row.want {
			t.Errorf("Range of %v: got %v, want %v", row.n, e, row.want)
		}
	}
}

func TestFinite(t *testing.T) {
	for _, row := range []struct {
		x    float64
		want api.Errno
	}{{0, api.OK}, {-0.1, api.OK}, {math.MaxFloat64, api.OK}, {math.NaN(), api.ErrForm}, {math.Inf(1), api.ErrForm}, {math.Inf(-1), api.ErrForm}} {
		if e := check.Finite(row.x); e != row.want {
			t.Errorf("Finite of %v: got %v, want %v", row.x, e, row.want)
		}
	}
}

func TestSixteenths(t *testing.T) {
	for _, row := range []struct {
		x    float64
		want api.Errno
	}{
		{0, api.OK}, {math.Copysign(0, -1), api.OK}, {-2, api.OK}, {3, api.OK}, {0.0625, api.OK}, {-0.9375, api.OK}, {-2.0625, api.ErrRange}, {3.0625, api.ErrRange}, {0.03125, api.ErrRange}, {-0.1, api.ErrRange}, {math.MaxFloat64, api.ErrRange}, {-math.MaxFloat64, api.ErrRange}, {math.NaN(), api.ErrRange},
	} {
		if e := check.Sixteenths(row.x, -2, 3); e != row.want {
			t.Errorf("Sixteenths of %v: got %v, want %v", row.x, e, row.want)
		}
	}
}

func TestComplex(t *testing.T) {
	for _, row := range []struct {
		re, im float64
		want   api.Errno
	}{
		{0, 0, api.OK}, {2, -2, api.OK}, {-2, 2, api.OK}, {0.0625, math.Copysign(0, -1), api.OK}, {2.0625, 0, api.ErrRange}, {-2.0625, 0, api.ErrRange}, {0, 2.0625, api.ErrRange}, {0, -2.0625, api.ErrRange}, {0.1, 0, api.ErrRange}, {0, 0.03125, api.ErrRange},
		{math.NaN(), 3, api.ErrForm}, {3, math.NaN(), api.ErrForm}, {math.Inf(1), 0, api.ErrForm}, {0, math.Inf(-1), api.ErrForm}, {0.1, math.Inf(1), api.ErrForm}, {math.MaxFloat64, -math.MaxFloat64, api.ErrRange},
	} {
		if e := check.Complex(complex(row.re, row.im), 2); e != row.want {
			t.Errorf("Complex of %v and %v: got %v, want %v", row.re, row.im, e, row.want)
		}
	}
}

func TestSizes(t *testing.T) {
	for _, row := range []struct {
		count        int
		many, filled api.Errno
	}{{0, api.OK, api.ErrEmpty}, {1, api.OK, api.OK}, {7, api.OK, api.OK}, {8, api.ErrMany, api.ErrMany}} {
		if e := check.Many(row.count, 7); e != row.many {
			t.Errorf("Many of %v: got %v, want %v", row.count, e, row.many)
		}
		if e := check.Filled(row.count, 7); e != row.filled {
			t.Errorf("Filled of %v: got %v, want %v", row.count, e, row.filled)
		}
	}
	if same, longer, shorter := check.Shape(2, 2), check.Shape(3, 2), check.Shape(2, 3); same != api.OK || longer != api.ErrShape || shorter != api.ErrShape {
		t.Errorf("Shape: got %v, %v and %v", same, longer, shorter)
	}
}

func TestLists(t *testing.T) {
	for _, row := range []struct {
		l         []int
		each, row api.Errno
	}{
		{nil, api.OK, api.OK}, {[]int{3, 5}, api.OK, api.OK}, {[]int{5, 3}, api.OK, api.ErrOrder}, {[]int{3, 8}, api.ErrRange, api.ErrRange}, {[]int{5, 3, 8}, api.ErrRange, api.ErrOrder}, {[]int{5, 8, 3}, api.ErrRange, api.ErrRange}, {[]int{2}, api.OK, api.ErrOrder}, {[]int{-1}, api.ErrRange, api.ErrRange}, {[]int{3, 3}, api.OK, api.ErrOrder},
	} {
		if e := check.Ranges(row.l, 0, 7); e != row.each {
			t.Errorf("Ranges of %v: got %v, want %v", row.l, e, row.each)
		}
		if e := check.Each(row.l, func(n int) api.Errno { return check.Range(n, 0, 7) }); e != row.each {
			t.Errorf("Each of %v: got %v, want %v", row.l, e, row.each)
		}
		e := check.Row(row.l, 2, func(before, n int) api.Errno {
			return check.First(check.Range(n, 0, 7), check.Order(before < n))
		})
		if e != row.row {
			t.Errorf("Row of %v: got %v, want %v", row.l, e, row.row)
		}
	}
}

func TestOnce(t *testing.T) {
	once := check.Once()
	for _, row := range []struct {
		name string
		want api.Errno
	}{{"a", api.OK}, {"b", api.OK}, {"a", api.ErrTwice}, {"", api.OK}, {"", api.ErrTwice}, {"A", api.OK}, {"b", api.ErrTwice}} {
		if e := once(row.name); e != row.want {
			t.Errorf("Once of %q: got %v, want %v", row.name, e, row.want)
		}
	}
	if e := check.Once()("a"); e != api.OK {
		t.Errorf("another Once: got %v", e)
	}
}

func TestRising(t *testing.T) {
	for _, row := range []struct {
		l    []int
		want api.Errno
	}{
		{nil, api.OK}, {[]int{0}, api.OK}, {[]int{0, 0, 7, 7}, api.OK}, {[]int{-1}, api.ErrRange}, {[]int{8}, api.ErrRange}, {[]int{2, 1}, api.ErrOrder}, {[]int{2, -1}, api.ErrRange}, {[]int{2, 1, 8}, api.ErrOrder}, {[]int{2, 8, 1}, api.ErrRange},
		{[]int{math.MinInt}, api.ErrRange}, {[]int{math.MaxInt}, api.ErrRange},
	} {
		if e := check.Rising(row.l, 7); e != row.want {
			t.Errorf("Rising of %v: got %v, want %v", row.l, e, row.want)
		}
	}
}

func TestPlace(t *testing.T) {
	for _, row := range []struct {
		x, y int
		want api.Errno
	}{
		{0, 0, api.OK}, {1000, -1000, api.OK}, {-1000, 1000, api.OK}, {1001, 0, api.ErrRange}, {-1001, 0, api.ErrRange}, {0, 1001, api.ErrRange}, {0, -1001, api.ErrRange},
		{math.MinInt, 0, api.ErrRange}, {0, math.MaxInt, api.ErrRange},
	} {
		if e := check.Place(api.Point{X: row.x, Y: row.y}); e != row.want {
			t.Errorf("Place of %v, %v: got %v, want %v", row.x, row.y, e, row.want)
		}
	}
}
