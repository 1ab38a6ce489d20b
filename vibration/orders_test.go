package vibration_test

import (
	"math"
	"math/rand"
	"slices"
	"testing"

	"nacelle/api"
	"nacelle/vibration"
)

var (
	nan  = float32(math.NaN())
	inf  = float32(math.Inf(1))
	zero = float32(math.Copysign(0, -1))
)

// badSamples are what no sample is, and the errors.
var badSamples = []struct {
	x float32
	e api.Errno
}{{nan, api.ErrForm}, {inf, api.ErrForm}, {-inf, api.ErrForm}, {2048.0625, api.ErrRange}, {-2049, api.ErrRange}, {1.0 / 32, api.ErrRange}, {math.MaxFloat32, api.ErrRange}, {math.SmallestNonzeroFloat32, api.ErrRange}}

// badSignals are signals with an error, and their errors.
var badSignals = []struct {
	signal []float32
	e      api.Errno
}{
	{make([]float32, 1025), api.ErrMany}, {slices.Repeat([]float32{nan}, 1028), api.ErrMany}, {make([]float32, 1), api.ErrShape}, {[]float32{nan, 1}, api.ErrShape}, {make([]float32, 1023), api.ErrShape}, {make([]float32, 5), api.ErrShape},
	{[]float32{0, 0, nan, 3000}, api.ErrForm}, {[]float32{0, 3000, nan, 0}, api.ErrRange}, {[]float32{0, 0, 0, 0, 0, 0, 0, 0.01}, api.ErrRange}, {[]float32{0, 0, 0, inf}, api.ErrForm},
}

// badSpectra are what no orders of a block are, and the errors.
var badSpectra = []struct {
	orders vibration.Spectrum
	e      api.Errno
}{
	{vibration.Spectrum{complex(nan, 0)}, api.ErrForm}, {vibration.Spectrum{complex(0, nan)}, api.ErrForm}, {vibration.Spectrum{complex(0.01, inf)}, api.ErrForm}, {vibration.Spectrum{complex(-inf, 9000)}, api.ErrForm}, {vibration.Spectrum{3: complex(0, -inf)}, api.ErrForm},
	{vibration.Spectrum{0: 1i, 2: complex(nan, 0)}, api.ErrForm}, {vibration.Spectrum{0: 0.01, 2: complex(nan, 0)}, api.ErrRange}, {vibration.Spectrum{0: complex(nan, 0), 2: 0.01}, api.ErrForm},
	{vibration.Spectrum{8192.0625}, api.ErrRange}, {vibration.Spectrum{-8193}, api.ErrRange}, {vibration.Spectrum{1: 8193i, 3: -8193i}, api.ErrRange}, {vibration.Spectrum{3: 1.0 / 32}, api.ErrRange}, {vibration.Spectrum{0: 1i, 3: 0.03125i}, api.ErrRange}, {vibration.Spectrum{complex(0, math.MaxFloat32)}, api.ErrRange},
	{vibration.Spectrum{8192.0625 + 1i}, api.ErrRange}, {vibration.Spectrum{1 - 8192.0625i}, api.ErrRange}, {vibration.Spectrum{8192 + 1i}, api.ErrConflict}, {vibration.Spectrum{1 - 8192i}, api.ErrConflict},
	{vibration.Spectrum{1i}, api.ErrConflict}, {vibration.Spectrum{2: 1i}, api.ErrConflict}, {vibration.Spectrum{1: 1}, api.ErrConflict}, {vibration.Spectrum{3: 1}, api.ErrConflict}, {vibration.Spectrum{1: 1 + 1i, 3: 1 + 1i}, api.ErrConflict}, {vibration.Spectrum{1: 1 + 1i, 3: -1 - 1i}, api.ErrConflict}, {vibration.Spectrum{1: 1 + 1i, 3: -1 + 1i}, api.ErrConflict}, {vibration.Spectrum{1i, 0, 1i}, api.ErrConflict}, {vibration.Spectrum{1i, 0, -1i}, api.ErrConflict}, {vibration.Spectrum{0.0625 + 0.0625i}, api.ErrConflict},
	{vibration.Spectrum{0.0625}, api.ErrRange}, {vibration.Spectrum{0.125}, api.ErrRange}, {vibration.Spectrum{8192, 0, 1, 0}, api.ErrRange}, {vibration.Spectrum{8192, 8192, 8192, 8192}, api.ErrRange}, {vibration.Spectrum{8192, 0, 8192, 0}, api.ErrRange}, {vibration.Spectrum{1: 0.0625i, 3: -0.0625i}, api.ErrRange},
}

func TestP43CheckSamples(t *testing.T) {
	for _, good := range [][]float32{nil, {1, 2, 3, 4}, make([]float32, 1024), {2048, -2048, 0.0625, zero}} {
		check(t, "CheckSamples", vibration.CheckSamples(good), api.OK)
	}
	for _, row := range badSignals {
		check(t, "CheckSamples", vibration.CheckSamples(row.signal), row.e)
	}
	for _, row := range badSamples {
		check(t, "CheckSamples", vibration.CheckSamples([]float32{0, 0, row.x, 0}), row.e)
	}
}

func TestP43Orders(t *testing.T) {
	for _, row := range []struct {
		block vibration.Block
		want  vibration.Spectrum
	}{
		{vibration.Block{1, 2, 3, 4}, vibration.Spectrum{10, -2 + 2i, -2, -2 - 2i}}, {vibration.Block{}, vibration.Spectrum{}}, {vibration.Block{1}, vibration.Spectrum{1, 1, 1, 1}}, {vibration.Block{0, 1}, vibration.Spectrum{1, -1i, -1, 1i}}, {vibration.Block{0, 0, 1}, vibration.Spectrum{1, -1, 1, -1}}, {vibration.Block{0, 0, 0, 1}, vibration.Spectrum{1, 1i, -1, -1i}},
		{vibration.Block{2048, 2048, 2048, 2048}, vibration.Spectrum{8192}}, {vibration.Block{-2048, 2048, -2048, 2048}, vibration.Spectrum{2: -8192}}, {vibration.Block{0.0625, -2048, 0.0625, 2048}, vibration.Spectrum{0.125, 4096i, 0.125, -4096i}},
	} {
		got, e := vibration.Orders(row.block)
		check(t, "Orders", e, api.OK)
		check(t, "Orders", got, row.want)
		back, e := vibration.Back(row.want)
		check(t, "Back", e, api.OK)
		check(t, "Back", back, row.block)
	}
	got, _ := vibration.Orders(vibration.Block{zero, zero, zero, zero})
	for _, x := range got {
		check(t, "the sign of 0", math.Signbit(float64(real(x))) || math.Signbit(float64(imag(x))), false)
	}
	for _, row := range badSamples {
		got, e := vibration.Orders(vibration.Block{1, 1, row.x, 1})
		check(t, "Orders", e, row.e)
		checkZero(t, "Orders", got)
	}
	_, e := vibration.Orders(vibration.Block{1, 3000, nan, 1})
	check(t, "Orders of two bad samples", e, api.ErrRange)
}

func TestP43Back(t *testing.T) {
	for _, row := range badSpectra {
		got, e := vibration.Back(row.orders)
		check(t, "Back", e, row.e)
		checkZero(t, "Back", got)
	}
	got, e := vibration.Back(vibration.Spectrum{complex(zero, zero), complex(zero, zero), complex(0, zero), complex(zero, zero)})
	check(t, "Back", e, api.OK)
	for _, x := range got {
		check(t, "Back of 0", x, 0)
		check(t, "the sign of 0", math.Signbit(float64(x)), false)
	}
	got, e = vibration.Back(vibration.Spectrum{0.25, 0, 0, 0})
	check(t, "Back", e, api.OK)
	check(t, "Back", got, vibration.Block{0.0625, 0.0625, 0.0625, 0.0625})
	got, e = vibration.Back(vibration.Spectrum{0.0625, 0.0625, 0.0625, 0.0625})
	check(t, "Back", e, api.OK)
	check(t, "Back", got, vibration.Block{0.0625})
}

func TestP43Levels(t *testing.T) {
	for _, row := range []struct {
		signal []float32
		want   [3]float64
	}{
		{[]float32{1, 2, 3, 4}, [3]float64{100, 8, 4}}, {nil, [3]float64{}}, {make([]float32, 8), [3]float64{}}, {[]float32{1, 2, 3, 4, 0, 1, 0, 0}, [3]float64{101, 9, 5}}, {[]float32{0.0625, 0, 0, 0}, [3]float64{1.0 / 256, 1.0 / 256, 1.0 / 256}},
		{slices.Repeat([]float32{2048}, 1024), [3]float64{256 * 8192 * 8192}}, {slices.Repeat([]float32{2048, -2048}, 512), [3]float64{2: 256 * 8192 * 8192}}, {slices.Repeat([]float32{2048, 2048, -2048, -2048}, 256), [3]float64{1: 256 * 2 * 4096 * 4096}},
	} {
		got, e := vibration.Levels(row.signal)
		check(t, "Levels", e, api.OK)
		check(t, "Levels", got, row.want)
	}
	exact := slices.Repeat([]float32{2048}, 1024)
	exact[1020] = 2047.9375
	got, _ := vibration.Levels(exact)
	check(t, "Levels to the last bit", got, [3]float64{255*8192*8192 + 8191.9375*8191.9375, 1.0 / 256, 1.0 / 256})
}

func TestP43Exceeds(t *testing.T) {
	signal := []float32{1, 2, 3, 4, 0, 1, 0, 0, 0, 0, 0, 0}
	for _, row := range []struct {
		order int
		level float64
		want  string
	}{
		{0, 0, "xx."}, {0, 1, "x.."}, {0, 99.99999, "x.."}, {0, 100, "..."}, {0, math.Copysign(0, -1), "xx."}, {0, 0.999, "xx."}, {1, 7.5, "x.."}, {1, 8, "..."}, {2, 3.75, "x.."}, {2, 4, "..."}, {2, 0.5, "xx."}, {1, math.MaxFloat64, "..."}, {1, math.SmallestNonzeroFloat64, "xx."},
	} {
		got, e := vibration.Exceeds(signal, row.order, row.level)
		check(t, "Exceeds", e, api.OK)
		checkList(t, "Exceeds", got, entries(row.want))
	}
	got, e := vibration.Exceeds(nil, 2, 0)
	check(t, "Exceeds", e, api.OK)
	checkList(t, "Exceeds of no blocks", got, nil)
}

func TestP43Errors(t *testing.T) {
	for _, row := range badSignals {
		levels, e := vibration.Levels(row.signal)
		check(t, "Levels", e, row.e)
		exceeds, e := vibration.Exceeds(row.signal, 3, math.NaN())
		check(t, "Exceeds", e, row.e)
		checkZero(t, "of a bad signal", levels, exceeds)
	}
	for _, row := range []struct {
		order int
		level float64
		e     api.Errno
	}{
		{-1, math.NaN(), api.ErrRange}, {3, math.Inf(1), api.ErrRange}, {math.MinInt, 0, api.ErrRange}, {math.MaxInt, 0, api.ErrRange},
		{0, math.NaN(), api.ErrForm}, {1, math.Inf(1), api.ErrForm}, {2, math.Inf(-1), api.ErrForm}, {0, -1, api.ErrRange}, {2, -math.SmallestNonzeroFloat64, api.ErrRange}, {2, -math.MaxFloat64, api.ErrRange},
	} {
		got, e := vibration.Exceeds([]float32{1, 2, 3, 4}, row.order, row.level)
		check(t, "Exceeds", e, row.e)
		checkZero(t, "Exceeds", got)
	}
}

func TestP43Otherwise(t *testing.T) {
	r := rand.New(rand.NewSource(3))
	for range 300 {
		signal := randomSamples(r, 4*r.Intn(20))
		var want [3]float64
		var blocks [][4]complex128
		for chunk := range slices.Chunk(signal, 4) {
			wide := slowOrders(vibration.Block(chunk))
			blocks = append(blocks, wide)
			got, e := vibration.Orders(vibration.Block(chunk))
			check(t, "Orders", e, api.OK)
			for k, x := range got {
				check(t, "Orders", complex128(x), wide[k])
			}
			for k := range want {
				want[k] += real(wide[k])*real(wide[k]) + imag(wide[k])*imag(wide[k])
			}
		}
		levels, e := vibration.Levels(signal)
		check(t, "Levels", e, api.OK)
		check(t, "Levels", levels, want)
		if len(blocks) == 0 {
			continue
		}
		order := r.Intn(3)
		some := blocks[r.Intn(len(blocks))][order]
		level := real(some)*real(some) + imag(some)*imag(some)
		exceeds, e := vibration.Exceeds(signal, order, level)
		check(t, "Exceeds", e, api.OK)
		check(t, "an entry for each block", len(exceeds), len(blocks))
		for i, x := range blocks {
			check(t, "Exceeds", exceeds[i], real(x[order])*real(x[order])+imag(x[order])*imag(x[order]) > level)
		}
	}
}
