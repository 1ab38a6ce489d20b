package grid

import (
	"iter"
	"slices"

	"nacelle/api"
	"nacelle/check"
	"nacelle/phasor"
)

// Cable leads from a node to the node before it, with an impedance.
type Cable struct {
	Parent    int
	Impedance complex128
}

// CheckNetwork returns the first error of cables, or OK.
func CheckNetwork(l []Cable) api.Errno {
	if e := check.Many(len(l), MaxCables); e != api.OK {
		return e
	}
	for i, c := range l {
		if e := check.First(check.That(0 <= c.Parent && c.Parent <= i, api.ErrUnknown), checkImpedance(c.Impedance)); e != api.OK {
			return e
		}
	}
	return api.OK
}

// flow is a network with currents that flow into its nodes from 1 on.
type flow struct {
	cables []Cable
	in     []complex128
}

// flowOf returns a network with currents, or the first error of these.
func flowOf(l []Cable, in []complex128) (flow, api.Errno) {
	if e := check.First(CheckNetwork(l), check.Shape(len(in), len(l)), check.Each(in, checkCurrent)); e != api.OK {
		return flow{}, e
	}
	return flow{cables: l, in: in}, api.OK
}

// way visits the cables on the way from a node to the node 0.
func (f flow) way(node int) iter.Seq[int] {
	return func(yield func(int) bool) {
		for at := node; at > 0 && yield(at-1); {
			at = f.cables[at-1].Parent
		}
	}
}

// currents returns the currents of all cables.
func (f flow) currents() []complex128 {
	out := make([]complex128, len(f.cables))
	for i, current := range f.in {
		for cable := range f.way(i + 1) {
			out[cable] += current
		}
	}
	return out
}

// voltages returns the voltages of all nodes, by that of the node 0.
func (f flow) voltages(root complex128) []complex128 {
	out := []complex128{root + 0} // 0 is in place of -0
	for i, current := range f.currents() {
		c := f.cables[i]
		out = append(out, out[c.Parent]+c.Impedance*current)
	}
	return out
}

// losses returns the power that is lost in all cables.
func (f flow) losses() complex128 {
	sum := complex128(0)
	for i, current := range f.currents() {
		sum += f.cables[i].Impedance * complex(phasor.Squared(current), 0)
	}
	return sum
}

// Currents returns the currents of all cables.
func Currents(l []Cable, in []complex128) ([]complex128, api.Errno) {
	f, e := flowOf(l, in)
	if e != api.OK {
		return nil, e
	}
	return f.currents(), api.OK
}

// Voltages returns the voltages of all nodes.
func Voltages(l []Cable, in []complex128, root complex128) ([]complex128, api.Errno) {
	f, e := flowOf(l, in)
	if e := check.First(e, checkVoltage(root)); e != api.OK {
		return nil, e
	}
	return f.voltages(root), api.OK
}

// Losses returns the power that is lost in all cables.
func Losses(l []Cable, in []complex128) (complex128, api.Errno) {
	f, e := flowOf(l, in)
	return f.losses(), e
}

// Powers returns the powers that all nodes give.
func Powers(l []Cable, in []complex128, root complex128) ([]complex128, api.Errno) {
	volts, e := Voltages(l, in, root)
	if e != api.OK {
		return nil, e
	}
	out := make([]complex128, len(in))
	for i, current := range in {
		out[i] = volts[i+1]*phasor.Conjugate(current) + 0 // 0 is in place of -0
	}
	return out, api.OK
}

// CheckFlow returns OK for the voltages of a network.
func CheckFlow(l []Cable, in, volts []complex128) api.Errno {
	f, e := flowOf(l, in)
	if e := check.First(e, check.Shape(len(volts), len(l)+1)); e != api.OK {
		return e
	}
	root := volts[0]
	return check.First(checkVoltage(root), check.That(slices.Equal(volts, f.voltages(root)), api.ErrProof))
}
