package vibration

import (
	"slices"

	"nacelle/api"
	"nacelle/check"
	"nacelle/list"
	"nacelle/phasor"
	"nacelle/site"
)

const (
	levels   = 3        // the order 3 is the conjugate of the order 1
	maxPart  = 8192     // of an order: the sum of as many samples as a block has
	backward = Size - 1 // as many turns as one turn the other way round
)

// Block is four samples.
type Block [Size]float32

// Spectrum is the four orders of a block.
type Spectrum [Size]complex64

// CheckSamples returns the first error of a signal, or OK.
func CheckSamples(l []float32) api.Errno {
	return check.First(check.Many(len(l), MaxSamples), check.Shape(len(l)%Size, 0), check.Each(l, site.CheckSample))
}

// checkOrder returns the error of an order, or OK.
func checkOrder(x complex64) api.Errno { return check.Complex(complex128(x), maxPart) }

// squared returns the squared absolute value of an order.
func squared(x complex64) float64 { return phasor.Squared(complex128(x)) }

// orders returns the orders of a block.
func (b Block) orders() Spectrum {
	var values [Size]complex64
	for n, x := range b {
		values[n] = complex(x, 0)
	}
	return phasor.Sums(values, 1)
}

// mirrored returns the conjugates of orders in the opposite order. Those of a block are the same as its orders, as its samples are real.
func (s Spectrum) mirrored() Spectrum {
	out := s
	for k, x := range s {
		out[(Size-k)%Size] = complex(real(x), -imag(x))
	}
	return out
}

// spectra returns the orders of each block of a signal that was checked.
func spectra(l []float32) []Spectrum {
	blocks := slices.Collect(slices.Chunk(l, Size))
	return list.Changed(blocks, func(b []float32) Spectrum { return Block(b).orders() })
}

// Orders returns the orders of a block.
func Orders(b Block) (Spectrum, api.Errno) {
	if e := check.Each(b[:], site.CheckSample); e != api.OK {
		return Spectrum{}, e
	}
	return b.orders(), api.OK
}

// Back returns the block of its orders.
func Back(s Spectrum) (Block, api.Errno) {
	if e := check.Each(s[:], checkOrder); e != api.OK {
		return Block{}, e
	}
	if s != s.mirrored() {
		return Block{}, api.ErrConflict
	}
	var out Block
	for n, x := range phasor.Sums(s, backward) {
		out[n] = real(x) / Size
	}
	if e := check.Each(out[:], site.CheckSample); e != api.OK {
		return Block{}, e
	}
	return out, api.OK
}

// Levels returns the levels of the orders 0, 1 and 2 of a signal.
func Levels(l []float32) ([levels]float64, api.Errno) {
	if e := CheckSamples(l); e != api.OK {
		return [levels]float64{}, e
	}
	var out [levels]float64
	for _, s := range spectra(l) {
		for order := range out {
			out[order] += squared(s[order])
		}
	}
	return out, api.OK
}

// Exceeds reports for each block whether an order of it is above a level.
func Exceeds(l []float32, order int, level float64) ([]bool, api.Errno) {
	if e := check.First(CheckSamples(l), check.Range(order, 0, levels-1), checkLevel(level)); e != api.OK {
		return nil, e
	}
	return list.Changed(spectra(l), func(s Spectrum) bool { return squared(s[order]) > level }), api.OK
}

// checkLevel returns the error of a level, or OK.
func checkLevel(level float64) api.Errno {
	if e := check.Finite(level); e != api.OK {
		return e
	}
	if level < 0 {
		return api.ErrRange
	}
	return api.OK
}
