package site

import (
	"strconv"
	"strings"

	"nacelle/api"
	"nacelle/text"
)

// Print returns the text of a site.
func Print(s Site) (string, api.Errno) {
	if e := CheckSite(s); e != api.OK {
		return "", e
	}
	var out strings.Builder
	out.WriteString(entry("site", s.Name, s.Least))
	for _, t := range s.Turbines {
		out.WriteString(entry("turbine", t.Name, t.At.X, t.At.Y))
	}
	return out.String(), api.OK
}

// entry returns a line with a kind, a name and integers.
func entry(kind, name string, values ...int) string {
	line := kind + " " + name
	for _, n := range values {
		line += " " + strconv.Itoa(n)
	}
	return line + "\n"
}

// Parse returns the site of a text, and the index of the first line that is wrong.
func Parse(s string) (Site, int, api.Errno) {
	if len(s) > api.MaxLog {
		return Site{}, 0, api.ErrLong
	}
	lines := text.Lines(s)
	var out Site
	for i, line := range lines {
		ok := false
		if i == 0 {
			out, ok = readSite(line)
		} else {
			var t Turbine
			t, ok = readTurbine(line)
			out.Turbines = append(out.Turbines, t)
		}
		if !ok {
			return Site{}, i, api.ErrSyntax
		}
	}
	if len(lines) == 0 {
		return Site{}, 0, api.ErrSyntax
	}
	if e := CheckSite(out); e != api.OK {
		return Site{}, len(lines), e
	}
	return out, 0, api.OK
}

// readSite reads the first line of a text.
func readSite(line string) (Site, bool) {
	name, values, ok := readEntry(line, "site", 1)
	if !ok {
		return Site{}, false
	}
	return Site{Name: name, Least: values[0]}, true
}

// readTurbine reads any other line of a text.
func readTurbine(line string) (Turbine, bool) {
	name, values, ok := readEntry(line, "turbine", 2)
	if !ok {
		return Turbine{}, false
	}
	return Turbine{Name: name, At: api.Point{X: values[0], Y: values[1]}}, true
}

// readEntry reads the name and the integers of a line that has a kind and so many integers.
func readEntry(line, kind string, count int) (string, []int, bool) {
	body, ended := strings.CutSuffix(line, "\n")
	words := text.Split(body)
	take := words.Take
	if take() != kind || !ended {
		return "", nil, false
	}
	name := take()
	var values []int
	for range count {
		n, ok := text.Integer(take())
		if !ok {
			return "", nil, false
		}
		values = append(values, n)
	}
	if name == "" || !words.Done() {
		return "", nil, false
	}
	return name, values, true
}
