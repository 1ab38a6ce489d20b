package market

import (
	"strconv"
	"strings"

	"nacelle/api"
	"nacelle/list"
	"nacelle/text"
)

// Print returns the text of quarters.
func Print(l []Quarter) (string, api.Errno) {
	if e := checkQuarters(l); e != api.OK {
		return "", e
	}
	return strings.Join(list.Changed(l, Quarter.line), ""), api.OK
}

// line returns the line of a quarter.
func (q Quarter) line() string {
	f := q.figures()
	return text.Line(strconv.Itoa(f[0]), f[1:]...)
}

// Parse returns the quarters with a text, and the index of the first line that is wrong.
func Parse(s string) ([]Quarter, int, api.Errno) {
	return text.Parse(s, api.MaxText, readQuarter, checkQuarters)
}

// readQuarter reads a line of a text into quarters.
func readQuarter(to *[]Quarter, _ int, words *text.Words) bool {
	take := words.Numbers
	numbers, areNumbers := take(figureCount, text.Natural)
	if !areNumbers {
		return false
	}
	*to = append(*to, figures(numbers).quarter())
	return true
}
