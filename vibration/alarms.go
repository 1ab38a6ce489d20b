package vibration

import (
	"cmp"
	"slices"

	"nacelle/api"
	"nacelle/check"
	"nacelle/list"
	"nacelle/site"
)

// maxLists is how many lists may vote.
const maxLists = 8

// Alarm is a name and a quarter of an hour.
type Alarm struct {
	Name string
	At   int
}

// compare compares two alarms by their quarters, then by their names.
func (a Alarm) compare(b Alarm) int {
	return cmp.Or(cmp.Compare(a.At, b.At), cmp.Compare(a.Name, b.Name))
}

// checkAlarm returns the first error of an alarm behind another one, or OK.
func checkAlarm(before, a Alarm) api.Errno {
	if !site.IsName(a.Name) {
		return api.ErrName
	}
	return check.First(check.Range(a.At, 0, api.MaxTime), check.Order(before.compare(a) <= 0))
}

// checkEntries returns ErrMany if a list has too many entries.
func checkEntries(l []bool) api.Errno { return check.Many(len(l), MaxSamples) }

// checkLists returns the first error of lists that vote, or OK.
func checkLists(lists [][]bool) api.Errno {
	return check.First(check.Filled(len(lists), maxLists), check.Each(lists, func(l []bool) api.Errno {
		return check.First(checkEntries(l), check.Shape(len(l), len(lists[0])))
	}))
}

// Persist reports for each index whether enough of the last ones were true.
func Persist(l []bool, m, n int) ([]bool, api.Errno) {
	if e := check.First(checkEntries(l), check.Range(n, 1, MaxSamples), check.Range(m, 1, n)); e != api.OK {
		return nil, e
	}
	out := make([]bool, len(l))
	for i := range out {
		out[i] = trues(l[max(i-n+1, 0):i+1]...) >= m
	}
	return out, api.OK
}

// trues returns how many of some values are true.
func trues(values ...bool) int {
	count := 0
	for _, v := range values {
		if v {
			count++
		}
	}
	return count
}

// Vote reports for each index whether enough lists are true.
func Vote(lists [][]bool, m int) ([]bool, api.Errno) {
	if e := check.First(checkLists(lists), check.Range(m, 1, len(lists))); e != api.OK {
		return nil, e
	}
	out := make([]bool, len(lists[0]))
	for i := range out {
		out[i] = trues(list.Changed(lists, func(l []bool) bool { return l[i] })...) >= m
	}
	return out, api.OK
}

// Latch reports for each index whether an alarm is on.
func Latch(on, off []bool) ([]bool, api.Errno) {
	if e := check.First(checkEntries(on), checkEntries(off), check.Shape(len(on), len(off))); e != api.OK {
		return nil, e
	}
	out := slices.Clone(on)
	for i := 1; i < len(out); i++ {
		out[i] = out[i] || out[i-1] && !off[i]
	}
	return out, api.OK
}

// Groups returns the groups of alarms that follow one another.
func Groups(l []Alarm, gap int) ([][]Alarm, api.Errno) {
	if e := check.First(check.Many(len(l), MaxSamples), check.Row(l, Alarm{}, checkAlarm), check.Range(gap, 0, MaxGap)); e != api.OK {
		return nil, e
	}
	var firsts []int
	groups := map[int][]Alarm{} // by the index of their first alarm
	for i, a := range l {
		if i == 0 || a.At-l[i-1].At > gap {
			firsts = append(firsts, i)
		}
		first := firsts[len(firsts)-1]
		groups[first] = append(groups[first], a)
	}
	return list.Changed(firsts, func(first int) []Alarm { return groups[first] }), api.OK
}
