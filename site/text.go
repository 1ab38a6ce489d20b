package site

import (
	"strings"

	"nacelle/api"
	"nacelle/text"
)

// Print returns the text of a site.
func Print(s Site) (string, api.Errno) {
	if e := CheckSite(s); e != api.OK {
		return "", e
	}
	var out strings.Builder
	out.WriteString(text.Line("site "+s.Name, s.Least))
	for _, t := range s.Turbines {
		out.WriteString(text.Line("turbine "+t.Name, t.At.X, t.At.Y))
	}
	return out.String(), api.OK
}

// Parse returns the site of a text, and the index of the first line that is wrong.
func Parse(s string) (Site, int, api.Errno) {
	if s == "" {
		return Site{}, 0, api.ErrSyntax
	}
	return text.Parse(s, api.MaxLog, readLine, CheckSite)
}

// readLine reads a line of a text into a site: the first one is that of the site, all others are those of turbines.
func readLine(to *Site, index int, words *text.Words) bool {
	if index == 0 {
		name, values, ok := readEntry(words, "site", 1)
		if ok {
			to.Name, to.Least = name, values[0]
		}
		return ok
	}
	name, values, ok := readEntry(words, "turbine", 2)
	if ok {
		to.Turbines = append(to.Turbines, Turbine{Name: name, At: api.Point{X: values[0], Y: values[1]}})
	}
	return ok
}

// readEntry reads the name and the integers of a line that has a kind and so many integers.
func readEntry(words *text.Words, kind string, count int) (string, []int, bool) {
	take := words.Take
	if take() != kind {
		return "", nil, false
	}
	name := take()
	values, ok := words.Numbers(count, text.Integer)
	return name, values, ok && name != ""
}
