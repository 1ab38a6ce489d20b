// Package list has what several layers do with lists.
package list

// Changed returns a new list with what a function makes of each element.
func Changed[A, B any](l []A, change func(A) B) []B {
	out := make([]B, len(l))
	for i, x := range l {
		out[i] = change(x)
	}
	return out
}
