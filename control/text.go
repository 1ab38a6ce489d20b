package control

import (
	"strconv"
	"strings"

	"nacelle/api"
	"nacelle/check"
	"nacelle/list"
	"nacelle/text"
)

const (
	noBlade = "-" // the word for None
	numbers = 3   // of a line: wind, pitch and torque
)

// checkActs returns the first error of acts of any machine, or OK.
func checkActs(l []Act) api.Errno {
	greatest := Machine{Wind: MaxWind, Feather: MaxAngle, Torque: MaxTorque}
	return check.First(check.Many(len(l), MaxSteps), check.Each(l, func(a Act) api.Errno { return a.checkNumbers(greatest) }))
}

// Print returns the text of a history.
func Print(l []Act) (string, api.Errno) {
	if e := checkActs(l); e != api.OK {
		return "", e
	}
	return strings.Join(list.Changed(l, Act.line), ""), api.OK
}

// line returns the line of an act.
func (a Act) line() string {
	blade := noBlade
	if a.Stuck != None {
		blade = strconv.Itoa(a.Stuck)
	}
	words := []string{a.Kind, strconv.Itoa(a.Wind), strconv.Itoa(a.Pitch), strconv.Itoa(a.Torque), blade}
	return strings.Join(words, " ") + "\n"
}

// Parse returns the history of a text, and the index of the first line that is wrong.
func Parse(s string) ([]Act, int, api.Errno) { return text.Parse(s, api.MaxLog, readAct, checkActs) }

// readAct reads a line of a text into a history.
func readAct(to *[]Act, _ int, words *text.Words) bool {
	kind := words.Take()
	values, areNumbers := words.Numbers(numbers, text.Natural)
	stuck, isBlade := readBlade(words.Take())
	if kind == "" || !areNumbers || !isBlade {
		return false
	}
	*to = append(*to, Act{Kind: kind, Wind: values[0], Pitch: values[1], Torque: values[2], Stuck: stuck})
	return true
}

// readBlade reads a blade, or None.
func readBlade(word string) (int, bool) {
	if word == noBlade {
		return None, true
	}
	blade, ok := text.Natural(word)
	return blade, ok && blade < Blades
}
