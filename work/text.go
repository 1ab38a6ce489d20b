package work

import (
	"strings"

	"nacelle/api"
	"nacelle/check"
	"nacelle/list"
	"nacelle/text"
)

// checkActs returns the first error of the acts of a text, or OK.
func checkActs(l []Act) api.Errno {
	return check.First(check.Many(len(l), MaxActs), check.Each(l, CheckAct))
}

// Print returns the text of a history.
func Print(l []Act) (string, api.Errno) {
	if e := checkActs(l); e != api.OK {
		return "", e
	}
	return strings.Join(list.Changed(l, Act.line), ""), api.OK
}

// line returns the line of an act.
func (a Act) line() string {
	if a.Name == "" {
		return text.Line(a.Kind)
	}
	return text.Line(a.Kind + " " + a.Name)
}

// Parse returns the acts of a text, and the index of the first line that is wrong.
func Parse(s string) ([]Act, int, api.Errno) { return text.Parse(s, api.MaxLog, readAct, checkActs) }

// readAct reads a line of a text into acts.
func readAct(to *[]Act, _ int, words *text.Words) bool {
	take := words.Take
	a := Act{Kind: take()}
	isNamed := !words.Done()
	if isNamed {
		a.Name = take()
	}
	*to = append(*to, a)
	return a.Kind != "" && isNamed == (a.Name != "")
}
