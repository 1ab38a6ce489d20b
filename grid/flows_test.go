package grid_test

import (
	"math"
	"math/rand"
	"slices"
	"testing"

	"nacelle/api"
	"nacelle/grid"
)

// badNetworks are cables with an error, and their errors.
var badNetworks = []struct {
	l []grid.Cable
	e api.Errno
}{
	{make([]grid.Cable, 16), api.ErrMany}, {slices.Repeat([]grid.Cable{cable(-1, complex(nan, 0))}, 16), api.ErrMany},
	{[]grid.Cable{cable(1, 1)}, api.ErrUnknown}, {[]grid.Cable{cable(-1, 1)}, api.ErrUnknown}, {[]grid.Cable{cable(0, 1), cable(2, 1)}, api.ErrUnknown}, {[]grid.Cable{cable(0, 1), cable(1, 1), cable(3, 1)}, api.ErrUnknown}, {[]grid.Cable{cable(math.MinInt, 1)}, api.ErrUnknown}, {[]grid.Cable{cable(math.MaxInt, 1)}, api.ErrUnknown}, {[]grid.Cable{cable(1, complex(nan, 0))}, api.ErrUnknown},
	{[]grid.Cable{cable(0, -0.0625)}, api.ErrRange}, {[]grid.Cable{cable(0, 16.0625)}, api.ErrRange}, {[]grid.Cable{cable(0, 16.0625i)}, api.ErrRange}, {[]grid.Cable{cable(0, -16.0625i)}, api.ErrRange}, {[]grid.Cable{cable(0, complex(-1, nan))}, api.ErrForm},
	{[]grid.Cable{cable(0, 17), cable(5, 1)}, api.ErrRange}, {[]grid.Cable{cable(0, 1), cable(5, 1), cable(0, 17)}, api.ErrUnknown}, {[]grid.Cable{cable(0, 1), cable(0, 17), cable(5, complex(nan, 0))}, api.ErrRange},
}

// deepest and widest are the greatest networks: 15 cables in a row, and 15 at the node 0.
func deepest() []grid.Cable {
	var out []grid.Cable
	for i := range 15 {
		out = append(out, cable(i, 16-16i))
	}
	return out
}

func widest() []grid.Cable { return slices.Repeat([]grid.Cable{cable(0, 16i)}, 15) }

func TestP61Networks(t *testing.T) {
	for _, good := range [][]grid.Cable{nil, network(), deepest(), widest(), {cable(0, complex(zero, zero))}, {cable(0, 0.0625-0.0625i), cable(0, 16), cable(2, 16i), cable(0, -16i)}} {
		check(t, "CheckNetwork", grid.CheckNetwork(good), api.OK)
	}
	for _, row := range badNetworks {
		check(t, "CheckNetwork", grid.CheckNetwork(row.l), row.e)
	}
	for _, row := range badNumbers {
		check(t, "CheckNetwork", grid.CheckNetwork([]grid.Cable{cable(0, 1), cable(1, row.x)}), row.e)
	}
}

func TestP61Currents(t *testing.T) {
	for _, row := range []struct {
		l        []grid.Cable
		in, want []complex128
	}{
		{network(), in(), []complex128{3 + 1i, 2, 1i}}, {nil, nil, nil}, {[]grid.Cable{cable(0, 1)}, []complex128{-2i}, []complex128{-2i}}, {network(), []complex128{64, -64, 64i}, []complex128{64i, -64, 64i}}, {[]grid.Cable{cable(0, 0), cable(0, 1), cable(1, 2), cable(2, 3), cable(3, 4)}, []complex128{1, 2, 4, 8, 16}, []complex128{21, 10, 20, 8, 16}},
		{deepest(), slices.Repeat([]complex128{64 - 64i}, 15), []complex128{960 - 960i, 896 - 896i, 832 - 832i, 768 - 768i, 704 - 704i, 640 - 640i, 576 - 576i, 512 - 512i, 448 - 448i, 384 - 384i, 320 - 320i, 256 - 256i, 192 - 192i, 128 - 128i, 64 - 64i}}, {widest(), slices.Repeat([]complex128{64}, 15), slices.Repeat([]complex128{64}, 15)}, {network(), []complex128{0.0625, 0.0625i, -0.0625}, []complex128{0.0625i, 0.0625i, -0.0625}},
	} {
		got, e := grid.Currents(row.l, row.in)
		check(t, "Currents", e, api.OK)
		checkList(t, "Currents", got, row.want)
		checkSigns(t, "Currents", got...)
	}
}

func TestP61Voltages(t *testing.T) {
	for _, row := range []struct {
		l    []grid.Cable
		in   []complex128
		root complex128
		want []complex128
	}{
		{network(), in(), 10, []complex128{10, 13 + 1i, 14 + 3i, 13 + 3i}}, {nil, nil, 1024 - 1024i, []complex128{1024 - 1024i}}, {nil, nil, complex(zero, zero), []complex128{0}}, {network(), make([]complex128, 3), 7i, []complex128{7i, 7i, 7i, 7i}}, {[]grid.Cable{cable(0, 2i)}, []complex128{3i}, -1024, []complex128{-1024, -1030}}, {[]grid.Cable{cable(0, 0.0625)}, []complex128{0.0625i}, 0, []complex128{0, 0.00390625i}},
		{widest(), slices.Repeat([]complex128{64}, 15), 1024i, slices.Concat([]complex128{1024i}, slices.Repeat([]complex128{2048i}, 15))}, {[]grid.Cable{cable(0, 16+16i), cable(1, 16+16i)}, []complex128{64 - 64i, 64 - 64i}, 1024, []complex128{1024, 5120, 7168}}, {[]grid.Cable{cable(0, complex(zero, zero))}, []complex128{complex(zero, zero)}, complex(zero, 0), []complex128{0, 0}},
	} {
		got, e := grid.Voltages(row.l, row.in, row.root)
		check(t, "Voltages", e, api.OK)
		checkList(t, "Voltages", got, row.want)
		checkSigns(t, "Voltages", got...)
		check(t, "CheckFlow", grid.CheckFlow(row.l, row.in, got), api.OK)
	}
}

func TestP61Losses(t *testing.T) {
	for _, row := range []struct {
		l    []grid.Cable
		in   []complex128
		want complex128
	}{
		{network(), in(), 14 + 4i}, {[]grid.Cable{cable(0, 2)}, []complex128{3}, 18}, {[]grid.Cable{cable(0, 2)}, []complex128{3i}, 18}, {[]grid.Cable{cable(0, 2-1i)}, []complex128{3 - 4i}, 50 - 25i}, {nil, nil, 0}, {network(), make([]complex128, 3), 0}, {[]grid.Cable{cable(0, 1), cable(1, 1)}, []complex128{5, -5}, 25}, {[]grid.Cable{cable(0, 0.0625i)}, []complex128{0.0625}, 1i / 4096},
		{deepest(), slices.Repeat([]complex128{64 + 64i}, 15), (16 - 16i) * 2 * 64 * 64 * 1240}, {[]grid.Cable{cable(0, -1i)}, []complex128{0}, 0},
	} {
		got, e := grid.Losses(row.l, row.in)
		check(t, "Losses", e, api.OK)
		check(t, "Losses", got, row.want)
		checkSigns(t, "Losses", got)
	}
}

func TestP61Powers(t *testing.T) {
	for _, row := range []struct {
		l    []grid.Cable
		in   []complex128
		root complex128
		want []complex128
	}{
		{network(), in(), 10, []complex128{13 + 1i, 28 + 6i, 3 - 13i}}, {nil, nil, 10, nil}, {network(), make([]complex128, 3), -10, []complex128{0, 0, 0}}, {[]grid.Cable{cable(0, 1i)}, []complex128{2i}, 3, []complex128{-2i}}, {[]grid.Cable{cable(0, 0)}, []complex128{1 - 1i}, 2 + 3i, []complex128{-1 + 5i}}, {[]grid.Cable{cable(0, 0)}, []complex128{1i}, 0, []complex128{0}}, {[]grid.Cable{cable(0, 0)}, []complex128{0}, -1i, []complex128{0}}, {[]grid.Cable{cable(0, 0)}, []complex128{-64}, 1024i, []complex128{-65536i}},
	} {
		got, e := grid.Powers(row.l, row.in, row.root)
		check(t, "Powers", e, api.OK)
		checkList(t, "Powers", got, row.want)
		checkSigns(t, "Powers", got...)
	}
}

func TestP61CheckFlow(t *testing.T) {
	big := []grid.Cable{cable(0, 16)}
	for _, row := range []struct {
		l         []grid.Cable
		in, volts []complex128
		e         api.Errno
	}{
		{network(), in(), []complex128{10, 13 + 1i, 14 + 3i, 13 + 3i}, api.OK}, {network(), in(), []complex128{0, 3 + 1i, 4 + 3i, 3 + 3i}, api.OK}, {nil, nil, []complex128{-5}, api.OK}, {network(), make([]complex128, 3), []complex128{complex(zero, 0), 0, complex(0, zero), 0}, api.OK}, {big, []complex128{64}, []complex128{1024, 2048}, api.OK}, {[]grid.Cable{cable(0, 0.0625)}, []complex128{0.0625}, []complex128{0, 0.00390625}, api.OK},
		{network(), in(), nil, api.ErrShape}, {network(), in(), []complex128{nans, 0, 0}, api.ErrShape}, {network(), in(), []complex128{10, 13 + 1i, 14 + 3i, 13 + 3i, 0}, api.ErrShape}, {nil, nil, nil, api.ErrShape}, {nil, nil, []complex128{2000, 1}, api.ErrShape},
		{nil, nil, []complex128{1024.0625}, api.ErrRange}, {nil, nil, []complex128{nans}, api.ErrForm}, {network(), in(), []complex128{0.01, 3 + 1i, 4 + 3i, 3 + 3i}, api.ErrRange}, {network(), in(), []complex128{complex(0, inf), 0, 0, 0}, api.ErrForm},
		{network(), in(), []complex128{10, 13, 14 + 3i, 13 + 3i}, api.ErrProof}, {network(), in(), []complex128{10, 13 + 1i, 14 - 3i, 13 + 3i}, api.ErrProof}, {network(), in(), []complex128{10, 13 + 1i, 14 + 3i, 13.0001 + 3i}, api.ErrProof}, {network(), in(), []complex128{9, 13 + 1i, 14 + 3i, 13 + 3i}, api.ErrProof}, {network(), in(), []complex128{10, 13 + 1i, nans, 13 + 3i}, api.ErrProof}, {network(), in(), []complex128{10, complex(inf, inf), 0, 0}, api.ErrProof},
	} {
		check(t, "CheckFlow", grid.CheckFlow(row.l, row.in, row.volts), row.e)
	}
}

func TestP61Errors(t *testing.T) {
	type row struct {
		l    []grid.Cable
		in   []complex128
		root complex128
		e    api.Errno
	}
	var rows []row
	for _, bad := range badNetworks {
		rows = append(rows, row{bad.l, nil, nans, bad.e}, row{bad.l, make([]complex128, len(bad.l)), 0, bad.e})
	}
	for _, bad := range badNumbers {
		rows = append(rows, row{network(), []complex128{1, bad.x, 1}, nans, bad.e}, row{network(), []complex128{1, 1, bad.x}, 0, bad.e}, row{network(), in(), bad.x, bad.e})
	}
	rows = append(rows,
		row{network(), nil, 0, api.ErrShape}, row{network(), []complex128{nans, 0}, 0, api.ErrShape}, row{network(), []complex128{0, 0, 0, nans}, 0, api.ErrShape}, row{nil, []complex128{0}, 0, api.ErrShape}, row{nil, make([]complex128, 100), nans, api.ErrShape},
		row{network(), []complex128{0, 65, nans}, 0, api.ErrRange}, row{network(), []complex128{0, nans, 65}, 0, api.ErrForm}, row{network(), []complex128{64.0625, 0, 0}, 0, api.ErrRange}, row{network(), []complex128{-64.0625, 0, 0}, 0, api.ErrRange}, row{network(), []complex128{64.0625i, 0, 0}, 0, api.ErrRange}, row{network(), []complex128{-64.0625i, 0, 0}, nans, api.ErrRange},
		row{network(), in(), 1024.0625, api.ErrRange}, row{network(), in(), -1024.0625, api.ErrRange}, row{network(), in(), 1024.0625i, api.ErrRange}, row{network(), in(), -1024.0625i, api.ErrRange},
	)
	for _, row := range rows {
		volts, e := grid.Voltages(row.l, row.in, row.root)
		check(t, "Voltages", e, row.e)
		powers, e := grid.Powers(row.l, row.in, row.root)
		check(t, "Powers", e, row.e)
		checkZero(t, "with a voltage of the node 0", volts, powers)
		if slices.Equal(row.in, in()) { // only the voltage is wrong
			check(t, "CheckFlow", grid.CheckFlow(row.l, row.in, []complex128{row.root, 0, 0, 0}), row.e)
			continue
		}
		check(t, "CheckFlow", grid.CheckFlow(row.l, row.in, nil), row.e)
		currents, e := grid.Currents(row.l, row.in)
		check(t, "Currents", e, row.e)
		losses, e := grid.Losses(row.l, row.in)
		check(t, "Losses", e, row.e)
		checkZero(t, "of a network with currents", currents, losses)
	}
}

func TestP61Otherwise(t *testing.T) {
	r := rand.New(rand.NewSource(1))
	for range 1000 {
		l := randomNetwork(r)
		in, root := randomNumbers(r, len(l), 64), randomNumber(r, -1024, 1024)
		currents, e := grid.Currents(l, in)
		check(t, "Currents", e, api.OK)
		volts, e := grid.Voltages(l, in, root)
		check(t, "Voltages", e, api.OK)
		powers, e := grid.Powers(l, in, root)
		check(t, "Powers", e, api.OK)
		losses, e := grid.Losses(l, in)
		check(t, "Losses", e, api.OK)
		check(t, "Losses", losses, slowLosses(l, in).number(4096))
		check(t, "voltages", len(volts), len(l)+1)
		check(t, "the voltage of the node 0", volts[0], root)
		check(t, "powers", len(powers), len(l))
		for i := range l {
			check(t, "Currents", currents[i], slowCurrent(l, in, i).number(16))
			volt := slowVoltage(l, in, root, i+1)
			check(t, "Voltages", volts[i+1], volt.number(256))
			conjugate := whole(in[i], 16)
			conjugate[1] = -conjugate[1]
			check(t, "Powers", powers[i], volt.times(conjugate).number(4096))
		}
		check(t, "CheckFlow", grid.CheckFlow(l, in, volts), api.OK)
		if len(l) > 0 {
			volts[1+r.Intn(len(l))] += 0.00390625i
			check(t, "CheckFlow", grid.CheckFlow(l, in, volts), api.ErrProof)
		}
	}
}
