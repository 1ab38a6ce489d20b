package rotor

import (
	"strings"

	"nacelle/api"
	"nacelle/text"
)

// ringNumbers is how many integers the line of a ring has.
const ringNumbers = 4

// Print returns the text of a blade. It is never longer than MaxText, as no blade has more classes and rings than fit.
func Print(b Blade) (string, api.Errno) {
	if e := CheckBlade(b); e != api.OK {
		return "", e
	}
	var coefficients []int
	for c, lift := range b.Polar.Lift {
		coefficients = append(coefficients, lift, b.Polar.Drag[c])
	}
	var out strings.Builder
	out.WriteString(text.Line("polar", coefficients...))
	for _, r := range b.Rings {
		out.WriteString(text.Line("ring", r.Radius, r.Chord, r.Twist, r.Tip))
	}
	return out.String(), api.OK
}

// Parse returns the blade of a text, and the index of the first line that is wrong.
func Parse(s string) (Blade, int, api.Errno) {
	if s == "" {
		return Blade{}, 0, api.ErrSyntax
	}
	return text.Parse(s, api.MaxText, readLine, CheckBlade)
}

// reader is how the lines of one kind are read.
type reader struct {
	isFirst bool // whether the first line is of this kind, or all others are
	read    func(to *Blade, numbers []int) bool
}

// readerOf returns the reader for the lines that begin with a word.
func readerOf(word string) (reader, bool) {
	readers := map[string]reader{"polar": {isFirst: true, read: readPolar}, "ring": {read: readRing}}
	r, ok := readers[word]
	return r, ok
}

// readLine reads a line of a text into a blade.
func readLine(to *Blade, index int, words *text.Words) bool {
	take := words.Take
	r, ok := readerOf(take())
	if !ok || r.isFirst != (index == 0) {
		return false
	}
	var numbers []int
	for !words.Done() {
		n, ok := text.Integer(take())
		if !ok {
			return false
		}
		numbers = append(numbers, n)
	}
	return r.read(to, numbers)
}

// readPolar reads the lift and the drag of each class.
func readPolar(to *Blade, numbers []int) bool {
	for i, n := range numbers {
		if i%2 == 0 {
			to.Polar.Lift = append(to.Polar.Lift, n)
		} else {
			to.Polar.Drag = append(to.Polar.Drag, n)
		}
	}
	return len(numbers)%2 == 0
}

// readRing reads the numbers of a ring.
func readRing(to *Blade, numbers []int) bool {
	if len(numbers) != ringNumbers {
		return false
	}
	to.Rings = append(to.Rings, Ring{Radius: numbers[0], Chord: numbers[1], Twist: numbers[2], Tip: numbers[3]})
	return true
}
