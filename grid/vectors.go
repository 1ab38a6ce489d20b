package grid

import (
	"nacelle/api"
	"nacelle/check"
	"nacelle/phasor"
	"nacelle/ratio"
)

const (
	positive = 1   // of the sequences
	negative = 3   // of the sequences
	squares  = 256 // into which 1 is divided by squares of sixteenths
)

// vectors are four space vectors, or their sequences.
type vectors [4]complex64

// check returns the error of the first space vector with an error, or OK.
func (v vectors) check() api.Errno { return check.Each(v[:], checkVector) }

// sequences returns the sequences of space vectors.
func (v vectors) sequences() vectors { return phasor.Sums(v, 1) }

// alone returns one of the sequences, and 0 for the other ones.
func (v vectors) alone(k int) vectors {
	var out vectors
	out[k] = v[k]
	return out
}

// norm returns the sum of the squared absolute values of sequences, times squares.
func (v vectors) norm() int {
	sum := 0.0
	for _, x := range v {
		sum += phasor.Squared(complex128(x))
	}
	return int(squares * sum)
}

// Sequence returns the sequences of four space vectors.
func Sequence(v [4]complex64) ([4]complex64, api.Errno) {
	if e := vectors(v).check(); e != api.OK {
		return vectors{}, e
	}
	return vectors(v).sequences(), api.OK
}

// Unbalance returns the negative sequence against the positive one.
func Unbalance(v [4]complex64) (api.Ratio, api.Errno) {
	s, e := Sequence(v)
	if e != api.OK {
		return api.Ratio{}, e
	}
	turning := vectors(s).alone(positive)
	if turning == (vectors{}) {
		return api.Ratio{}, api.ErrZero
	}
	return ratio.Of(vectors(s).alone(negative).norm(), turning.norm()), api.OK
}

// Instant returns the power of space vectors of voltage and current, one by one.
func Instant(u, i []complex64) ([]float64, api.Errno) {
	if e := check.First(check.Many(len(u), MaxTicks), check.Each(u, checkVector), check.Each(i, checkVector), check.Shape(len(u), len(i))); e != api.OK {
		return nil, e
	}
	out := make([]float64, len(u))
	for at := range out {
		out[at] = real(complex128(u[at])*phasor.Conjugate(complex128(i[at]))) + 0 // 0 is in place of -0
	}
	return out, api.OK
}
