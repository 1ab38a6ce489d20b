// Package phasor has what several layers do with complex numbers.
package phasor

// size is how many quarter turns a whole one has.
const size = 4

// turn returns -i to a power, from 0 on.
func turn(power int) complex64 {
	turns := [size]complex64{1, -1i, -1, 1i}
	return turns[power%size]
}

// Sums returns, for k from 0 to 3, the sum over n of the value n after k n times some quarter turns clockwise. There are 0 turns or more.
func Sums(values [size]complex64, turns int) [size]complex64 {
	var out [size]complex64
	for k := range out {
		for n, x := range values {
			out[k] += x * turn(k*n*turns)
		}
	}
	return out
}

// Squared returns the squared absolute value of a number.
func Squared(x complex128) float64 { return real(x)*real(x) + imag(x)*imag(x) }

// Conjugate returns the conjugate of a number.
func Conjugate(x complex128) complex128 { return complex(real(x), -imag(x)) }
