package vibration_test

import (
	"math"
	"math/rand"
	"testing"

	"nacelle/api"
	"nacelle/vibration"
)

// badChains are chains with an error, and their errors.
var badChains = []struct {
	chain vibration.Chain
	e     api.Errno
}{
	{vibration.Chain{}, api.ErrEmpty}, {vibration.Chain{Springs: []int{1}}, api.ErrEmpty},
	{chain(1, 1, 1, 1, 1, 1, 1, 1, 1, 1, 1, 1), api.ErrMany}, {vibration.Chain{Masses: []int{0, 1, 1, 1, 1, 1}}, api.ErrMany},
	{vibration.Chain{Masses: []int{1}}, api.ErrShape}, {vibration.Chain{Masses: []int{0}, Springs: []int{0, 0}}, api.ErrShape}, {vibration.Chain{Masses: []int{1, 1}, Springs: []int{1}}, api.ErrShape},
	{chain(0, 1), api.ErrRange}, {chain(6, 1), api.ErrRange}, {chain(1, 0), api.ErrRange}, {chain(1, 21), api.ErrRange}, {chain(1, 1, 1, 21), api.ErrRange}, {chain(1, 1, 6, 1), api.ErrRange}, {chain(-1, 1), api.ErrRange}, {chain(1, -1), api.ErrRange},
	{chain(math.MinInt, 1), api.ErrRange}, {chain(1, math.MaxInt), api.ErrRange},
}

func TestP41CheckChain(t *testing.T) {
	for _, good := range []vibration.Chain{c(), heavy(), stiff(), chain(1, 1), chain(5, 20)} {
		check(t, "CheckChain", vibration.CheckChain(good), api.OK)
	}
	for _, row := range badChains {
		check(t, "CheckChain", vibration.CheckChain(row.chain), row.e)
	}
}

func TestP41Polynomial(t *testing.T) {
	for _, row := range []struct {
		chain vibration.Chain
		want  []int
	}{
		{c(), []int{4, -6, 1}}, {chain(1, 2), []int{2, -1}}, {chain(5, 20), []int{20, -5}}, {chain(2, 3, 3, 5), []int{15, -34, 6}},
		{chain(1, 1, 1, 1, 1, 1), []int{1, -6, 5, -1}},
		{chain(1, 20, 1, 20, 1, 20, 1, 20, 1, 20), []int{3200000, -2400000, 280000, -11200, 180, -1}},
		{chain(5, 1, 5, 1, 5, 1, 5, 1, 5, 1), []int{1, -75, 875, -3500, 5625, -3125}},
	} {
		got, e := vibration.Polynomial(row.chain)
		check(t, "Polynomial", e, api.OK)
		checkList(t, "Polynomial", got, row.want)
	}
}

func TestP41Value(t *testing.T) {
	for _, row := range []struct {
		chain    vibration.Chain
		at, want int
	}{
		{c(), 8, -64}, {c(), 0, 256}, {c(), 6, 4}, {c(), 7, -31}, {c(), 41, -31}, {c(), 42, 4}, {chain(1, 2), 16, 0}, {chain(1, 2), 15, 1}, {chain(1, 2), 17, -1}, {chain(5, 20), 800, 160 - 4000},
		{stiff(), 0, 32768 * 3200000}, {heavy(), 0, 32768},
	} {
		got, e := vibration.Value(row.chain, row.at)
		check(t, "Value", e, api.OK)
		check(t, "Value", got, row.want)
	}
}

func TestP41Count(t *testing.T) {
	for _, row := range []struct {
		chain    vibration.Chain
		at, want int
	}{
		{c(), 0, 0}, {c(), 6, 0}, {c(), 7, 1}, {c(), 8, 1}, {c(), 41, 1}, {c(), 42, 2}, {c(), 800, 2},
		{chain(1, 2), 15, 0}, {chain(1, 2), 16, 0}, {chain(1, 2), 17, 1}, // the mode 16 is not below 16
		{chain(1, 3, 1, 2), 40, 1}, {chain(1, 3, 1, 2), 8, 0}, {chain(1, 3, 1, 2), 9, 1}, // the modes are 1 and 6; at 40 the first minor is 0
		{chain(1, 3, 1, 2), 48, 1}, {chain(1, 3, 1, 2), 49, 2},
		{heavy(), 0, 0}, {heavy(), 800, 5}, {stiff(), 800, 5}, {stiff(), 640, 5}, {stiff(), 0, 0},
	} {
		got, e := vibration.Count(row.chain, row.at)
		check(t, "Count", e, api.OK)
		check(t, "Count", got, row.want)
	}
}

func TestP41Interval(t *testing.T) {
	for _, row := range []struct {
		chain vibration.Chain
		want  []int
	}{
		{c(), []int{6, 41}}, {chain(1, 2), []int{16}}, {chain(1, 20), []int{160}}, {chain(5, 1), []int{1}}, {chain(5, 20), []int{32}}, {chain(1, 3, 1, 2), []int{8, 48}},
		{heavy(), []int{0, 1, 2, 4, 5}}, {stiff(), []int{12, 110, 274, 452, 589}},
	} {
		for index, want := range row.want {
			got, e := vibration.Interval(row.chain, index)
			check(t, "Interval", e, api.OK)
			check(t, "Interval", got, want)
		}
	}
	twice := chain(5, 1, 5, 1, 5, 1)
	for index, want := range []int{0, 2, 5} {
		got, _ := vibration.Interval(twice, index)
		check(t, "Interval of heavy masses", got, want)
	}
}

func TestP41Discs(t *testing.T) {
	for _, row := range []struct {
		chain vibration.Chain
		want  []vibration.Disc
	}{
		{c(), []vibration.Disc{{Centre: ratio(4, 1), Radius: ratio(2, 1)}, {Centre: ratio(2, 1), Radius: ratio(2, 1)}}},
		{chain(4, 6), []vibration.Disc{{Centre: ratio(3, 2), Radius: ratio(0, 1)}}},
		{chain(4, 2, 3, 4, 5, 5), []vibration.Disc{{Centre: ratio(3, 2), Radius: ratio(1, 1)}, {Centre: ratio(3, 1), Radius: ratio(3, 1)}, {Centre: ratio(1, 1), Radius: ratio(1, 1)}}},
		{chain(4, 2, 4, 5, 3, 5), []vibration.Disc{{Centre: ratio(7, 4), Radius: ratio(5, 4)}, {Centre: ratio(5, 2), Radius: ratio(5, 2)}, {Centre: ratio(5, 3), Radius: ratio(5, 3)}}},
	} {
		got, e := vibration.Discs(row.chain)
		check(t, "Discs", e, api.OK)
		checkList(t, "Discs", got, row.want)
	}
}

func TestP41Damped(t *testing.T) {
	for _, row := range []struct {
		chain   vibration.Chain
		dampers []int
		at      int
		want    complex128
	}{
		{chain(1, 2), []int{1}, 8, 8 + 8i}, {chain(1, 2), []int{0}, 8, 8}, {chain(1, 2), []int{20}, 0, 16 + 160i}, {c(), []int{0, 0}, 8, -64},
		{c(), []int{1, 0}, 8, -64 + 64i}, {c(), []int{0, 1}, 8, -64 + 192i}, {c(), []int{1, 1}, 8, -128 + 256i},
		{chain(5, 1, 5, 1, 5, 1), []int{20, 20, 20}, 800, -63055359488 + 7624765440i},
	} {
		got, e := vibration.Damped(row.chain, row.dampers, row.at)
		check(t, "Damped", e, api.OK)
		check(t, "Damped", got, row.want)
	}
	for at := range 801 {
		got, _ := vibration.Damped(chain(1, 2, 3, 4, 5, 6), []int{0, 0, 0}, at)
		check(t, "the sign of 0", math.Signbit(imag(got)), false)
		check(t, "the sign of 0", real(got) == 0 && math.Signbit(real(got)), false)
	}
}

func TestP41Errors(t *testing.T) {
	for _, row := range badChains {
		polynomial, e := vibration.Polynomial(row.chain)
		check(t, "Polynomial", e, row.e)
		value, e := vibration.Value(row.chain, -1)
		check(t, "Value", e, row.e)
		count, e := vibration.Count(row.chain, -1)
		check(t, "Count", e, row.e)
		interval, e := vibration.Interval(row.chain, -1)
		check(t, "Interval", e, row.e)
		discs, e := vibration.Discs(row.chain)
		check(t, "Discs", e, row.e)
		damped, e := vibration.Damped(row.chain, nil, -1)
		check(t, "Damped", e, row.e)
		checkZero(t, "of a bad chain", polynomial, value, count, interval, discs, damped)
	}
	for _, at := range []int{-1, 801, math.MinInt, math.MaxInt} {
		value, e := vibration.Value(c(), at)
		check(t, "Value", e, api.ErrRange)
		count, e := vibration.Count(c(), at)
		check(t, "Count", e, api.ErrRange)
		damped, e := vibration.Damped(c(), []int{1, 2}, at)
		check(t, "Damped", e, api.ErrRange)
		checkZero(t, "at no value", value, count, damped)
	}
	for _, index := range []int{-1, 2, 3, math.MinInt, math.MaxInt} {
		interval, e := vibration.Interval(c(), index)
		check(t, "Interval", e, api.ErrRange)
		checkZero(t, "of no mode", interval)
	}
	for _, row := range []struct {
		chain   vibration.Chain
		dampers []int
		at      int
		e       api.Errno
	}{
		{chain(1, 1, 1, 1, 1, 1, 1, 1), nil, -1, api.ErrLimit}, {heavy(), []int{0, 0, 0, 0, 0}, 0, api.ErrLimit}, {c(), nil, -1, api.ErrShape}, {c(), []int{-1}, -1, api.ErrShape}, {c(), []int{1, 1, 1}, 0, api.ErrShape},
		{c(), []int{-1, 0}, 0, api.ErrRange}, {c(), []int{0, 21}, 0, api.ErrRange}, {c(), []int{0, math.MaxInt}, 0, api.ErrRange}, {c(), []int{math.MinInt, 0}, 801, api.ErrRange},
	} {
		damped, e := vibration.Damped(row.chain, row.dampers, row.at)
		check(t, "Damped", e, row.e)
		checkZero(t, "Damped", damped)
	}
}

func TestP41Otherwise(t *testing.T) {
	r := rand.New(rand.NewSource(1))
	for range 300 {
		some := randomChain(r, 5)
		at := r.Intn(801)
		if r.Intn(2) == 0 {
			at = r.Intn(100)
		}
		value, e := vibration.Value(some, at)
		check(t, "Value", e, api.OK)
		check(t, "Value", gauss{value, 0}, slowDeterminant(slowMatrix(some, nil, at)))
		count, e := vibration.Count(some, at)
		check(t, "Count", e, api.OK)
		check(t, "Count", count, slowCount(some, at))
		for index := range some.Masses {
			interval, e := vibration.Interval(some, index)
			check(t, "Interval", e, api.OK)
			check(t, "no mode below the eighth", slowCount(some, interval) <= index, true)
			check(t, "a mode in the eighth", slowCount(some, interval+1) > index, true)
		}
		few := randomChain(r, 3)
		var dampers []int
		for range few.Masses {
			dampers = append(dampers, r.Intn(21))
		}
		damped, e := vibration.Damped(few, dampers, at)
		check(t, "Damped", e, api.OK)
		want := slowDeterminant(slowMatrix(few, dampers, at))
		check(t, "Damped", damped, complex(float64(want[0]), float64(want[1])))
	}
}
