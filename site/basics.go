package site

import (
	"nacelle/api"
	"nacelle/check"
)

const (
	drawFactor  = 950706376
	drawModulus = 2147483647
	fraction    = 16 // samples are multiples of 1/16
)

// IsName reports whether a string is a name.
func IsName(s string) bool {
	if s == "" || len(s) > api.MaxName {
		return false
	}
	for i, c := range s {
		if !isLetter(c) && (i == 0 || !isDigit(c) && c != '_') {
			return false
		}
	}
	return true
}

func isLetter(c rune) bool { return 'a' <= c && c <= 'z' || 'A' <= c && c <= 'Z' }

func isDigit(c rune) bool { return '0' <= c && c <= '9' }

// Draw returns the permutation of n elements by a key.
func Draw(key, n int) ([]int, api.Errno) {
	if e := check.First(check.Range(key, 1, drawModulus-1), check.Range(n, 0, api.MaxList)); e != api.OK {
		return nil, e
	}
	out := make([]int, n)
	for i := range n {
		out[i] = i
	}
	x := key
	for i := n - 1; i >= 1; i-- {
		x = drawFactor * x % drawModulus
		j := x % (i + 1)
		out[i], out[j] = out[j], out[i]
	}
	return out, api.OK
}

// CheckSample returns the error of a sample, or OK.
func CheckSample(x float32) api.Errno {
	wide := float64(x)
	return check.First(check.Finite(wide), check.Sixteenths(wide, -api.MaxSample, api.MaxSample))
}

// plain returns a sample with 0 in place of -0, so that results show one zero only.
func plain(x float32) float32 {
	if x == 0 {
		return 0
	}
	return x
}
