// Package text reads the lines, the words and the integers of the texts of several layers.
package text

import (
	"strconv"
	"strings"

	"nacelle/api"
)

// Lines splits a text behind each line feed; what stands behind the last one is a line, too, if it is not empty.
func Lines(s string) []string {
	lines := strings.SplitAfter(s, "\n")
	if last := len(lines) - 1; lines[last] == "" {
		return lines[:last]
	}
	return lines
}

// Words are those words of a line that nobody has taken yet.
type Words struct {
	left []string
}

// Split returns the words of a line that are separated by one blank; between two blanks stands an empty one.
func Split(line string) *Words { return &Words{left: strings.Split(line, " ")} }

// Take takes the next word; where none is left it gives the empty string, which is no word of a text.
func (w *Words) Take() string {
	if w.Done() {
		return ""
	}
	word := w.left[0]
	w.left = w.left[1:]
	return word
}

// Done reports whether no word is left.
func (w *Words) Done() bool { return len(w.left) == 0 }

// Integer reads an integer of at most 9 digits. Only the way in which a text has it is right, so it is written again.
func Integer(word string) (int, bool) {
	n, err := strconv.Atoi(word)
	if err != nil || n < -api.MaxNumber || n > api.MaxNumber || strconv.Itoa(n) != word {
		return 0, false
	}
	return n, true
}

// Natural reads an integer of at most 9 digits without a sign.
func Natural(word string) (int, bool) {
	n, ok := Integer(word)
	if n < 0 {
		return 0, false
	}
	return n, ok
}
