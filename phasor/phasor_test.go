package phasor_test

import (
	"math"
	"testing"

	"nacelle/phasor"
)

func TestSums(t *testing.T) {
	zero := float32(math.Copysign(0, -1))
	for _, row := range []struct {
		values [4]complex64
		turns  int
		want   [4]complex64
	}{
		{[4]complex64{1, 1i, -1, -1i}, 1, [4]complex64{0, 4, 0, 0}}, {[4]complex64{1, 1i, -1, -1i}, 3, [4]complex64{0, 0, 0, 4}}, {[4]complex64{1, 2, 3, 4}, 1, [4]complex64{10, -2 + 2i, -2, -2 - 2i}}, {[4]complex64{1, 2, 3, 4}, 5, [4]complex64{10, -2 + 2i, -2, -2 - 2i}}, {[4]complex64{1, 2, 3, 4}, 3, [4]complex64{10, -2 - 2i, -2, -2 + 2i}},
		{[4]complex64{1, 2, 3, 4}, 0, [4]complex64{10, 10, 10, 10}}, {[4]complex64{1, 2, 3, 4}, 2, [4]complex64{10, -2, 10, -2}}, {[4]complex64{0, 1i}, 1, [4]complex64{1i, 1, -1i, -1}}, {[4]complex64{complex(zero, zero), complex(zero, zero), complex(zero, zero), complex(zero, zero)}, 1, [4]complex64{}},
	} {
		got := phasor.Sums(row.values, row.turns)
		if got != row.want {
			t.Errorf("Sums of %v with %v turns: got %v, want %v", row.values, row.turns, got, row.want)
		}
		for _, x := range got {
			if x == 0 && (math.Signbit(float64(real(x))) || math.Signbit(float64(imag(x)))) {
				t.Errorf("Sums of %v with %v turns: got -0", row.values, row.turns)
			}
		}
	}
}

func TestNumbers(t *testing.T) {
	for _, row := range []struct {
		x         complex128
		squared   float64
		conjugate complex128
	}{{0, 0, 0}, {3 + 4i, 25, 3 - 4i}, {-0.0625, 1.0 / 256, -0.0625}, {-2i, 4, 2i}, {-5 - 1i, 26, -5 + 1i}} {
		if got := phasor.Squared(row.x); got != row.squared {
			t.Errorf("Squared of %v: got %v, want %v", row.x, got, row.squared)
		}
		if got := phasor.Conjugate(row.x); got != row.conjugate {
			t.Errorf("Conjugate of %v: got %v, want %v", row.x, got, row.conjugate)
		}
	}
}
