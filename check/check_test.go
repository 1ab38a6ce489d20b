package check_test

import (
	"math"
	"testing"

	"nacelle/api"
	"nacelle/check"
)

func TestFirst(t *testing.T) {
	for _, row := range []struct {
		errors []api.Errno
		want   api.Errno
	}{
		{nil, api.OK}, {[]api.Errno{api.OK}, api.OK}, {[]api.Errno{api.OK, api.ErrName, api.ErrRange}, api.ErrName}, {[]api.Errno{api.ErrRange, api.ErrName}, api.ErrRange},
	} {
		if e := check.First(row.errors...); e != row.want {
			t.Errorf("First of %v: got %v, want %v", row.errors, e, row.want)
		}
	}
}

func TestRange(t *testing.T) {
	for _, row := range []struct {
		n    int
		want api.Errno
	}{{-1, api.ErrRange}, {0, api.OK}, {7, api.OK}, {8, api.ErrRange}, {math.MinInt, api.ErrRange}, {math.MaxInt, api.ErrRange}} {
		if e := check.Range(row.n, 0, 7); e != row.want {
			t.Errorf("Range of %v: got %v, want %v", row.n, e, row.want)
		}
	}
}

func TestRising(t *testing.T) {
	for _, row := range []struct {
		l    []int
		want api.Errno
	}{
		{nil, api.OK}, {[]int{0}, api.OK}, {[]int{0, 0, 7, 7}, api.OK}, {[]int{-1}, api.ErrRange}, {[]int{8}, api.ErrRange}, {[]int{2, 1}, api.ErrOrder}, {[]int{2, -1}, api.ErrRange}, {[]int{2, 1, 8}, api.ErrOrder}, {[]int{2, 8, 1}, api.ErrRange},
		{[]int{math.MinInt}, api.ErrRange}, {[]int{math.MaxInt}, api.ErrRange},
	} {
		if e := check.Rising(row.l, 7); e != row.want {
			t.Errorf("Rising of %v: got %v, want %v", row.l, e, row.want)
		}
	}
}

func TestPlace(t *testing.T) {
	for _, row := range []struct {
		x, y int
		want api.Errno
	}{
		{0, 0, api.OK}, {1000, -1000, api.OK}, {-1000, 1000, api.OK}, {1001, 0, api.ErrRange}, {-1001, 0, api.ErrRange}, {0, 1001, api.ErrRange}, {0, -1001, api.ErrRange},
		{math.MinInt, 0, api.ErrRange}, {0, math.MaxInt, api.ErrRange},
	} {
		if e := check.Place(api.Point{X: row.x, Y: row.y}); e != row.want {
			t.Errorf("Place of %v, %v: got %v, want %v", row.x, row.y, e, row.want)
		}
	}
}
