// Package ratio has what several layers do with ratios.
package ratio

import "nacelle/api"

// Of returns a quotient in lowest terms. The divisor is not 0.
func Of(n, divisor int) api.Ratio {
	common := greatest(n, divisor)
	if common < 0 != (divisor < 0) { // so that the denominator is above 0
		common = -common
	}
	return api.Ratio{Num: n / common, Den: divisor / common}
}

// greatest returns the greatest common divisor of two numbers, or its opposite.
func greatest(a, b int) int {
	for b != 0 {
		a, b = b, a%b
	}
	return a
}

// Floor returns the greatest integer that is at most a ratio.
func Floor(r api.Ratio) int {
	quotient := r.Num / r.Den
	if quotient*r.Den > r.Num { // rounded up, towards 0
		quotient--
	}
	return quotient
}
