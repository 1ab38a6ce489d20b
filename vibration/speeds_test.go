package vibration_test

import (
	"math"
	"math/rand"
	"slices"
	"testing"

	"nacelle/api"
	"nacelle/vibration"
)

// badOrders are orders with an error, and their errors.
var badOrders = []struct {
	orders []int
	e      api.Errno
}{
	{nil, api.ErrEmpty}, {[]int{1, 2, 3, 4, 5, 6, 7, 8, 9}, api.ErrMany}, {[]int{0, 0, 0, 0, 0, 0, 0, 0, 0}, api.ErrMany}, {[]int{0}, api.ErrRange}, {[]int{13}, api.ErrRange}, {[]int{-1}, api.ErrRange}, {[]int{1, 1}, api.ErrOrder}, {[]int{2, 1}, api.ErrOrder},
	{[]int{2, 0}, api.ErrRange}, {[]int{2, 1, 13}, api.ErrOrder}, {[]int{2, 13, 1}, api.ErrRange}, {[]int{math.MaxInt}, api.ErrRange}, {[]int{1, math.MinInt}, api.ErrRange},
}

func TestP42Forbidden(t *testing.T) {
	for _, row := range []struct {
		orders       []int
		guard, speed int
		want         bool
	}{
		{[]int{1}, 2, 1, false}, {[]int{1}, 2, 2, true}, {[]int{1}, 2, 3, false}, {[]int{1}, 2, 6, false}, {[]int{1}, 2, 7, false}, {[]int{1}, 4, 2, true}, {[]int{1}, 4, 3, true}, {[]int{1}, 4, 6, false},
		{[]int{1}, 3, 3, true}, {[]int{1}, 1, 2, false}, {[]int{1}, 5, 6, true}, {[]int{1}, 5, 1, true}, {[]int{1}, 4, 1, false}, {[]int{2}, 2, 1, true}, {[]int{2}, 2, 2, false}, {[]int{2, 3}, 5, 2, true}, {[]int{3}, 5, 2, true}, {[]int{3}, 4, 2, false}, {[]int{1, 2, 12}, 2, 1, true},
		{[]int{1}, 0, 2, false}, {[]int{12}, 100, 100, false}, {[]int{1}, 100, 100, false}, {[]int{1}, 100, 11, true}, {[]int{1}, 100, 12, false},
	} {
		got, e := vibration.Forbidden(c(), row.orders, row.guard, row.speed)
		check(t, "Forbidden", e, api.OK)
		check(t, "Forbidden", got, row.want)
	}
	for speed, want := range []bool{1: false, 2: false, 3: false, 4: true, 5: false} { // the mode is 16 eighths
		if speed > 0 {
			got, _ := vibration.Forbidden(chain(1, 2), []int{1}, 0, speed)
			check(t, "Forbidden at a mode", got, want)
		}
	}
	for guard, want := range map[int]bool{8: false, 9: true} { // from 16 on, and from 7 on to below 26
		got, _ := vibration.Forbidden(chain(1, 2), []int{1}, guard, 5)
		check(t, "Forbidden above a mode", got, want)
	}
	for guard, want := range map[int]bool{6: false, 7: true} {
		got, _ := vibration.Forbidden(chain(1, 2), []int{1}, guard, 3)
		check(t, "Forbidden below a mode", got, want)
	}
}

func TestP42Bands(t *testing.T) {
	for _, row := range []struct {
		orders      []int
		guard, most int
		want        [][2]int
	}{
		{[]int{1}, 2, 10, [][2]int{{2, 2}}}, {[]int{1}, 4, 10, [][2]int{{2, 3}}}, {[]int{1}, 4, 2, [][2]int{{2, 2}}}, {[]int{1}, 4, 1, nil}, {[]int{1}, 5, 100, [][2]int{{1, 3}, {6, 6}}}, {[]int{1}, 5, 6, [][2]int{{1, 3}, {6, 6}}}, {[]int{1}, 0, 100, nil},
		{[]int{1}, 100, 100, [][2]int{{1, 11}}}, {[]int{2}, 5, 100, [][2]int{{1, 1}, {3, 3}}}, {[]int{1, 2}, 5, 100, [][2]int{{1, 3}, {6, 6}}},
	} {
		got, e := vibration.Bands(c(), row.orders, row.guard, row.most)
		check(t, "Bands", e, api.OK)
		checkList(t, "Bands", got, row.want)
	}
}

func TestP42SpeedErrors(t *testing.T) {
	for _, row := range badChains {
		forbidden, e := vibration.Forbidden(row.chain, nil, -1, 0)
		check(t, "Forbidden", e, row.e)
		bands, e := vibration.Bands(row.chain, nil, -1, 0)
		check(t, "Bands", e, row.e)
		checkZero(t, "of a bad chain", forbidden, bands)
	}
	for _, row := range badOrders {
		forbidden, e := vibration.Forbidden(c(), row.orders, -1, 0)
		check(t, "Forbidden", e, row.e)
		bands, e := vibration.Bands(c(), row.orders, -1, 0)
		check(t, "Bands", e, row.e)
		checkZero(t, "of bad orders", forbidden, bands)
	}
	for _, row := range [][2]int{{-1, 1}, {101, 1}, {math.MinInt, 1}, {math.MaxInt, 1}, {2, 0}, {2, -1}, {2, 101}, {100, math.MaxInt}, {0, math.MinInt}} {
		forbidden, e := vibration.Forbidden(c(), []int{1}, row[0], row[1])
		check(t, "Forbidden", e, api.ErrRange)
		bands, e := vibration.Bands(c(), []int{1}, row[0], row[1])
		check(t, "Bands", e, api.ErrRange)
		checkZero(t, "of a bad guard or speed", forbidden, bands)
	}
}

func TestP42Crossing(t *testing.T) {
	bands := [][2]int{{2, 3}, {5, 5}, {7, 100}}
	for _, row := range []struct {
		bands  [][2]int
		speeds []int
		most   int
		want   int
	}{
		{bands, []int{2, 2, 2}, 1, 1}, {bands, []int{2, 2, 2}, 2, 2}, {bands, []int{2, 2, 2}, 3, -1}, {bands, []int{1, 2, 3, 4, 5, 7}, 1, 2}, {bands, []int{1, 2, 4, 5, 6, 7}, 1, -1},
		{bands, []int{3, 5, 100, 7}, 3, 3}, // in different bands
		{bands, []int{0, 2, 0, 2, 2, 0, 2, 2, 2}, 2, 8}, {bands, nil, 1, -1}, {bands, []int{2}, 1, -1}, {bands, []int{2}, 1024, -1}, {nil, []int{2, 2, 2}, 1, -1}, {bands, []int{0, 0, 1, 1, 4, 4, 6, 6}, 1, -1},
		{[][2]int{{1, 100}}, []int{0, 1, 100}, 1, 2}, {[][2]int{{1, 100}}, slices.Repeat([]int{1}, 1024), 1023, 1023}, {[][2]int{{1, 100}}, slices.Repeat([]int{1}, 1024), 1024, -1},
	} {
		got, e := vibration.Crossing(row.bands, row.speeds, row.most)
		check(t, "Crossing", e, api.OK)
		check(t, "Crossing", got, row.want)
	}
}

func TestP42CrossingErrors(t *testing.T) {
	many := make([]int, 1025)
	var hundred [][2]int
	for i := range 50 {
		hundred = append(hundred, [2]int{2*i + 1, 2*i + 1})
	}
	for _, row := range []struct {
		bands  [][2]int
		speeds []int
		most   int
		e      api.Errno
	}{
		{make([][2]int, 101), many, 0, api.ErrMany}, {make([][2]int, 100), many, 0, api.ErrRange}, {[][2]int{{0, 1}}, many, 0, api.ErrRange}, {[][2]int{{1, 101}}, many, 0, api.ErrRange}, {[][2]int{{101, 1}}, many, 0, api.ErrRange}, {[][2]int{{1, 0}}, many, 0, api.ErrRange},
		{[][2]int{{2, 1}}, many, 0, api.ErrOrder}, {[][2]int{{1, 2}, {3, 3}}, many, 0, api.ErrOrder}, {[][2]int{{1, 2}, {3, 9}}, many, 0, api.ErrOrder}, {[][2]int{{1, 2}, {2, 3}}, many, 0, api.ErrOrder}, {[][2]int{{5, 6}, {1, 2}}, many, 0, api.ErrOrder}, {[][2]int{{1, 2}, {4, 3}, {0, 0}}, many, 0, api.ErrOrder}, {[][2]int{{1, 2}, {3, 101}}, many, 0, api.ErrRange},
		{[][2]int{{math.MinInt, 1}}, nil, 1, api.ErrRange}, {[][2]int{{1, 1}, {math.MaxInt, math.MaxInt}}, nil, 1, api.ErrRange}, {[][2]int{{1, 1}, {math.MinInt, math.MaxInt}}, nil, 1, api.ErrRange},
		{nil, many, 0, api.ErrMany}, {hundred, append(many, -1), 0, api.ErrMany}, {nil, []int{-1}, 0, api.ErrRange}, {nil, []int{1, 101}, 1, api.ErrRange}, {nil, []int{math.MinInt}, 1, api.ErrRange},
		{nil, nil, 0, api.ErrRange}, {nil, nil, -1, api.ErrRange}, {nil, nil, 1025, api.ErrRange}, {nil, nil, math.MaxInt, api.ErrRange}, {nil, nil, math.MinInt, api.ErrRange},
	} {
		got, e := vibration.Crossing(row.bands, row.speeds, row.most)
		check(t, "Crossing", e, row.e)
		checkZero(t, "Crossing", got)
	}
	_, e := vibration.Crossing(append(hundred, hundred...), nil, 1)
	check(t, "Crossing of bands that begin anew", e, api.ErrOrder)
	got, e := vibration.Crossing([][2]int{{1, 2}, {4, 4}, {6, 100}}, make([]int, 1024), 1)
	check(t, "Crossing", e, api.OK)
	check(t, "Crossing of a rotor that stands", got, -1)
}

func TestP42Otherwise(t *testing.T) {
	r := rand.New(rand.NewSource(2))
	for range 100 {
		some, orders, guard := randomChain(r, 5), randomOrders(r), r.Intn(101)
		if r.Intn(2) == 0 {
			guard = r.Intn(4)
		}
		most := 1 + r.Intn(100)
		bands, e := vibration.Bands(some, orders, guard, most)
		check(t, "Bands", e, api.OK)
		for speed := 1; speed <= most; speed++ {
			forbidden, e := vibration.Forbidden(some, orders, guard, speed)
			check(t, "Forbidden", e, api.OK)
			check(t, "Forbidden", forbidden, slowForbidden(some, orders, guard, speed))
			within := slices.ContainsFunc(bands, func(b [2]int) bool { return b[0] <= speed && speed <= b[1] })
			check(t, "a forbidden speed is in a band", within, forbidden)
		}
		speeds := make([]int, r.Intn(100))
		for i := range speeds {
			speeds[i] = r.Intn(min(most+2, 101))
		}
		number := 1 + r.Intn(5)
		crossing, e := vibration.Crossing(bands, speeds, number)
		check(t, "Crossing", e, api.OK)
		check(t, "Crossing", crossing, slowCrossing(bands, speeds, number))
	}
}

// slowCrossing looks at each index, and at the entries before it.
func slowCrossing(bands [][2]int, speeds []int, number int) int {
	for i := number; i < len(speeds); i++ {
		all := true
		for _, speed := range speeds[i-number : i+1] {
			within := false
			for _, b := range bands {
				within = within || b[0] <= speed && speed <= b[1]
			}
			all = all && within
		}
		if all {
			return i
		}
	}
	return -1
}
