package grid_test

import (
	"math/rand"
	"slices"
	"testing"

	"nacelle/api"
	"nacelle/grid"
)

// The space vectors of the chapter's examples: the first ones turn, the other ones go to and fro.
var (
	turning  = [4]complex64{1, 1i, -1, -1i}
	toAndFro = [4]complex64{1, 0, -1, 0}
)

func TestP63Sequence(t *testing.T) {
	small := complex64(complex(zero, zero))
	for _, row := range []struct{ v, want [4]complex64 }{
		{turning, [4]complex64{0, 4, 0, 0}}, {toAndFro, [4]complex64{0, 2, 0, 2}}, {[4]complex64{}, [4]complex64{}}, {[4]complex64{1, -1i, -1, 1i}, [4]complex64{0, 0, 0, 4}}, {[4]complex64{1, -1, 1, -1}, [4]complex64{0, 0, 4, 0}}, {[4]complex64{2i, 2i, 2i, 2i}, [4]complex64{8i, 0, 0, 0}}, {[4]complex64{1, 2, 3, 4}, [4]complex64{10, -2 + 2i, -2, -2 - 2i}}, {[4]complex64{0, 1 + 1i, 0, 0}, [4]complex64{1 + 1i, 1 - 1i, -1 - 1i, -1 + 1i}}, {[4]complex64{0, 0, 0, 1}, [4]complex64{1, 1i, -1, -1i}},
		{[4]complex64{64 + 64i, 64 + 64i, 64 + 64i, 64 + 64i}, [4]complex64{256 + 256i, 0, 0, 0}}, {[4]complex64{64 + 64i, -64 + 64i, -64 - 64i, 64 - 64i}, [4]complex64{0, 256 + 256i, 0, 0}}, {[4]complex64{0.0625, 64, 0.0625i, -64i}, [4]complex64{64.0625 - 63.9375i, 64.0625 - 64.0625i, -63.9375 + 64.0625i, -63.9375 + 63.9375i}}, {[4]complex64{small, small, small, small}, [4]complex64{}},
	} {
		got, e := grid.Sequence(row.v)
		check(t, "Sequence", e, api.OK)
		check(t, "Sequence", got, row.want)
		for _, x := range got {
			checkSigns(t, "Sequence", complex128(x))
		}
	}
}

func TestP63Unbalance(t *testing.T) {
	for _, row := range []struct {
		v    [4]complex64
		want api.Ratio
	}{
		{turning, ratio(0, 1)}, {toAndFro, ratio(1, 1)}, {[4]complex64{1, 0, 0, 0}, ratio(1, 1)}, {[4]complex64{4, 1i, -2, -3i}, ratio(1, 25)}, {[4]complex64{4, -1i, -2, 3i}, ratio(25, 1)}, {[4]complex64{3, 2i, -1, 0}, ratio(1, 9)}, {[4]complex64{1 + 1i, 0, 0, 1i}, ratio(5, 1)}, {[4]complex64{64, 64i, -64, -63.9375i}, ratio(1, 4095*4095)}, {[4]complex64{0.0625, 0.0625i, -0.0625, -0.0625i}, ratio(0, 1)}, {[4]complex64{0.0625}, ratio(1, 1)}, {[4]complex64{64, -64i, -64, 63.9375i}, ratio(4095*4095, 1)},
	} {
		got, e := grid.Unbalance(row.v)
		check(t, "Unbalance", e, api.OK)
		check(t, "Unbalance", got, row.want)
	}
	for _, v := range [][4]complex64{{}, {1, -1i, -1, 1i}, {1, 1, 1, 1}, {1, -1, 1, -1}, {2, 0, 2, 0}, {64, -64i, -64, 64i}} {
		got, e := grid.Unbalance(v)
		check(t, "Unbalance", e, api.ErrZero)
		checkZero(t, "Unbalance", got)
	}
}

// badVectors are space vectors with an error, and their errors.
var badVectors = []struct {
	v [4]complex64
	e api.Errno
}{
	{[4]complex64{64.0625}, api.ErrRange}, {[4]complex64{-64.0625}, api.ErrRange}, {[4]complex64{64.0625i}, api.ErrRange}, {[4]complex64{-64.0625i}, api.ErrRange}, {[4]complex64{3: 65}, api.ErrRange}, {[4]complex64{1: 0.1}, api.ErrRange}, {[4]complex64{0, 65, complex64(nans)}, api.ErrRange}, {[4]complex64{0, complex64(nans), 65}, api.ErrForm}, {[4]complex64{3: complex64(complex(65, inf))}, api.ErrForm},
}

func TestP63VectorErrors(t *testing.T) {
	rows := slices.Clone(badVectors)
	for _, row := range badNumbers {
		for place := range 4 {
			bad := rows[0]
			bad.v, bad.e = turning, row.e
			bad.v[place] = complex64(row.x)
			rows = append(rows, bad)
		}
	}
	for _, row := range rows {
		sequence, e := grid.Sequence(row.v)
		check(t, "Sequence", e, row.e)
		unbalance, e := grid.Unbalance(row.v)
		check(t, "Unbalance", e, row.e)
		checkZero(t, "of bad space vectors", sequence, unbalance)
		for _, l := range [][2][]complex64{{row.v[:], nil}, {turning[:], row.v[:]}, {nil, row.v[:]}, {row.v[:], slices.Repeat([]complex64{65, complex64(nans)}, 2)}} {
			power, e := grid.Instant(l[0], l[1])
			check(t, "Instant", e, row.e)
			checkZero(t, "Instant", power)
		}
	}
}

func TestP63Instant(t *testing.T) {
	for _, row := range []struct {
		u, i []complex64
		want []float64
	}{
		{nil, nil, nil}, {[]complex64{1, 1i, 2, 1 + 1i}, []complex64{1, 1i, 2i, 2 - 3i}, []float64{1, 1, 0, -1}}, {[]complex64{-1, 0, -1i, -1, 1i}, []complex64{0, -1i, 0, -1i, -1}, []float64{0, 0, 0, 0, 0}}, {[]complex64{64 - 64i, 64 + 64i}, []complex64{64 - 64i, -64 - 64i}, []float64{8192, -8192}}, {[]complex64{0.0625, 64i}, []complex64{0.0625, 0.0625i}, []float64{0.00390625, 4}}, {[]complex64{3 + 4i}, []complex64{3 + 4i}, []float64{25}},
	} {
		got, e := grid.Instant(row.u, row.i)
		check(t, "Instant", e, api.OK)
		checkList(t, "Instant", got, row.want)
		for _, x := range got {
			checkSigns(t, "Instant", complex(x, 0))
		}
	}
	long := slices.Repeat([]complex64{2i}, 1024)
	got, e := grid.Instant(long, long)
	check(t, "Instant", e, api.OK)
	checkList(t, "Instant", got, slices.Repeat([]float64{4}, 1024))
}

func TestP63InstantErrors(t *testing.T) {
	bad := complex64(nans)
	for _, row := range []struct {
		u, i []complex64
		e    api.Errno
	}{
		{slices.Repeat([]complex64{bad}, 1025), nil, api.ErrMany}, {make([]complex64, 1025), make([]complex64, 1025), api.ErrMany}, {make([]complex64, 1024), make([]complex64, 1025), api.ErrShape}, {nil, make([]complex64, 2000), api.ErrShape}, {make([]complex64, 1), make([]complex64, 2), api.ErrShape}, {make([]complex64, 2), make([]complex64, 1), api.ErrShape}, {nil, slices.Repeat([]complex64{65}, 2000), api.ErrRange}, {[]complex64{1, bad}, []complex64{65}, api.ErrForm}, {[]complex64{1, 65}, []complex64{bad}, api.ErrRange}, {[]complex64{1, 2}, []complex64{bad}, api.ErrForm},
	} {
		got, e := grid.Instant(row.u, row.i)
		check(t, "Instant", e, row.e)
		checkZero(t, "Instant", got)
	}
}

// randomVectors returns so many space vectors.
func randomVectors(r *rand.Rand, count int) []complex64 {
	var out []complex64
	for _, x := range randomNumbers(r, count, 64) {
		out = append(out, complex64(x))
	}
	return out
}

func TestP63Otherwise(t *testing.T) {
	r := rand.New(rand.NewSource(4))
	for range 1000 {
		v := [4]complex64(randomVectors(r, 4))
		want := slowSequences(v)
		got, e := grid.Sequence(v)
		check(t, "Sequence", e, api.OK)
		check(t, "Sequence", got, want)
		negative, positive := whole(complex128(want[3]), 16).squared(), whole(complex128(want[1]), 16).squared()
		unbalance, e := grid.Unbalance(v)
		if positive == 0 {
			check(t, "Unbalance", e, api.ErrZero)
			continue
		}
		check(t, "Unbalance", e, api.OK)
		check(t, "the quotient of Unbalance", unbalance.Num*positive, negative*unbalance.Den)
		a, b := unbalance.Num, unbalance.Den
		for b != 0 {
			a, b = b, a%b
		}
		check(t, "lowest terms", a == 1 && unbalance.Den > 0, true)
		u, i := randomVectors(r, 10), randomVectors(r, 10)
		powers, e := grid.Instant(u, i)
		check(t, "Instant", e, api.OK)
		for k, power := range powers {
			x, y := whole(complex128(u[k]), 16), whole(complex128(i[k]), 16)
			check(t, "Instant", power, float64(x[0]*y[0]+x[1]*y[1])/256)
		}
		check(t, "powers", len(powers), 10)
	}
}
