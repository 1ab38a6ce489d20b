// Package text reads and writes the lines, the words and the integers of the texts of several layers.
package text

import (
	"strconv"
	"strings"

	"nacelle/api"
)

// maxDigits is how many digits an integer has at most, so that none is above MaxNumber.
const maxDigits = 9

// Lines splits a text behind each line feed; what stands behind the last one is a line, too, if it is not empty.
func Lines(s string) []string {
	lines := strings.SplitAfter(s, "\n")
	if last := len(lines) - 1; lines[last] == "" {
		return lines[:last]
	}
	return lines
}

// Parse returns the value of a text: a function reads each line into it, takes its words, and reports whether they are right.
// Beside ErrLong, of a text of more than most bytes, the index is 0. Beside ErrSyntax it is that of the first line that is wrong, does not end, or has words left.
// Beside an error of the value that was read it is the number of lines.
func Parse[T any](s string, most int, read func(to *T, index int, words *Words) bool, check func(T) api.Errno) (T, int, api.Errno) {
	var out, none T
	if len(s) > most {
		return none, 0, api.ErrLong
	}
	lines := Lines(s)
	for i, line := range lines {
		body, ended := strings.CutSuffix(line, "\n")
		words := Split(body)
		if !ended || !read(&out, i, words) || !words.Done() {
			return none, i, api.ErrSyntax
		}
	}
	if e := check(out); e != api.OK {
		return none, len(lines), e
	}
	return out, 0, api.OK
}

// Line returns a line with a word and integers behind it.
func Line(word string, values ...int) string {
	for _, n := range values {
		word += " " + strconv.Itoa(n)
	}
	return word + "\n"
}

// Words are those words of a line that nobody has taken yet.
type Words struct {
	left []string
}

// Split returns the words of a line that are separated by one blank; between two blanks stands an empty one.
func Split(line string) *Words { return &Words{left: strings.Split(line, " ")} }

// Take takes the next word; where none is left it gives the empty string, which is no word of a text.
func (w *Words) Take() string {
	if w.Done() {
		return ""
	}
	word := w.left[0]
	w.left = w.left[1:]
	return word
}

// Done reports whether no word is left.
func (w *Words) Done() bool { return len(w.left) == 0 }

// Numbers takes so many words, and reads each one with a function.
func (w *Words) Numbers(count int, read func(word string) (int, bool)) ([]int, bool) {
	return taken(w, count, read)
}

// Filled takes so many words, each of which has at least one byte.
func (w *Words) Filled(count int) ([]string, bool) {
	return taken(w, count, func(word string) (string, bool) { return word, word != "" })
}

// taken takes so many words, and reads each one with a function, up to one that it does not read.
func taken[T any](w *Words, count int, read func(word string) (T, bool)) ([]T, bool) {
	var out []T
	for range count {
		x, ok := read(w.Take())
		if !ok {
			return nil, false
		}
		out = append(out, x)
	}
	return out, true
}

// Integer reads an integer of at most 9 digits, with or without a sign; -0 is none.
func Integer(word string) (int, bool) {
	digits, negative := strings.CutPrefix(word, "-")
	n, ok := Natural(digits)
	if negative {
		return -n, ok && n != 0
	}
	return n, ok
}

// Natural reads an integer of at most 9 digits without a sign. Leading zeros are wrong, as the texts have none.
func Natural(word string) (int, bool) {
	if word == "" || len(word) > maxDigits || len(word) > 1 && word[0] == '0' {
		return 0, false
	}
	n := 0
	for _, digit := range word {
		if digit < '0' || digit > '9' {
			return 0, false
		}
		n = 10*n + int(digit-'0')
	}
	return n, true
}
