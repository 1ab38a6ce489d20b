// Package list has what several layers do with lists.
package list

import "slices"

// Changed returns a new list with what a function makes of each element.
func Changed[A, B any](l []A, change func(A) B) []B {
	out := make([]B, len(l))
	for i, x := range l {
		out[i] = change(x)
	}
	return out
}

// Replaced returns a copy of a list in which the element with an index is what a function makes of it.
func Replaced[T any](l []T, index int, change func(T) T) []T {
	out := slices.Clone(l)
	out[index] = change(out[index])
	return out
}

// Paired returns a new list with what a function makes of each element and that of another list with the same index. The other list is at least as long.
func Paired[A, B, C any](l []A, others []B, pair func(A, B) C) []C {
	out := make([]C, len(l))
	for i, x := range l {
		out[i] = pair(x, others[i])
	}
	return out
}

// Sum returns the sum of numbers.
func Sum(l []int) int {
	sum := 0
	for _, n := range l {
		sum += n
	}
	return sum
}

// Kept returns a new list with those elements that a function keeps.
func Kept[T any](l []T, keep func(T) bool) []T {
	var out []T
	for _, x := range l {
		if keep(x) {
			out = append(out, x)
		}
	}
	return out
}

// Jump returns the first index at which a number differs from the one before by more than a number, or -1.
func Jump(l []int, most int) int {
	for i := 1; i < len(l); i++ {
		if max(l[i]-l[i-1], l[i-1]-l[i]) > most {
			return i
		}
	}
	return -1
}
