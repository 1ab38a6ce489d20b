package load

import (
	"strconv"
	"strings"

	"nacelle/api"
	"nacelle/list"
	"nacelle/text"
)

// Print returns the text of reversals.
func Print(l []Reversal) (string, api.Errno) {
	if e := CheckReversals(l); e != api.OK {
		return "", e
	}
	return strings.Join(list.Changed(l, Reversal.line), ""), api.OK
}

// line returns the line of a reversal.
func (r Reversal) line() string { return text.Line(strconv.Itoa(r.At), r.Load) }

// Parse returns the reversals with a text, or the index of the first line that is wrong.
func Parse(s string) ([]Reversal, int, api.Errno) {
	return text.Parse(s, api.MaxLog, readReversal, CheckReversals)
}

// readReversal reads a line of a text into reversals.
func readReversal(to *[]Reversal, _ int, words *text.Words) bool {
	take := words.Take
	at, isIndex := text.Integer(take())
	load, isLoad := text.Integer(take())
	*to = append(*to, Reversal{At: at, Load: load})
	return isIndex && isLoad
}
