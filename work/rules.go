package work

import (
	"slices"

	"nacelle/api"
	"nacelle/check"
)

// rule forbids acts of some kinds.
type rule struct {
	kinds   []string
	forbids func(l Lock, name string) bool
}

// rules returns the rules by their numbers, from 1 on.
func rules() map[int][]rule {
	return map[int][]rule{
		1: {{[]string{energize, free, start, unlock}, func(l Lock, _ string) bool { return l.isOut() }}},
		2: {{[]string{start}, func(l Lock, _ string) bool { return l.conditions() != standing }}},
		3: {{[]string{stop}, func(l Lock, _ string) bool { return !l.Running }}},
		4: {{[]string{fix, isolate, lock, prove}, func(l Lock, _ string) bool { return l.Running }}},
		5: {
			{[]string{lock}, func(l Lock, _ string) bool { return l.Rotor }},
			{[]string{fix}, func(l Lock, _ string) bool { return l.Yaw }},
			{[]string{isolate}, func(l Lock, _ string) bool { return l.Dead }},
			{[]string{unlock}, func(l Lock, _ string) bool { return !l.Rotor }},
			{[]string{free}, func(l Lock, _ string) bool { return !l.Yaw }},
			{[]string{energize}, func(l Lock, _ string) bool { return !l.Dead }},
			{[]string{prove}, func(l Lock, _ string) bool { return !l.Dead || l.Proven }},
		},
		6: {{[]string{issue}, func(l Lock, name string) bool {
			return l.conditions() != secured || l.holds(name) || len(l.Keys) == MaxKeys
		}}},
		7: {
			{[]string{enter, giveBack}, func(l Lock, name string) bool { return !l.holds(name) || l.has(name) }},
			{[]string{leave}, func(l Lock, name string) bool { return !l.has(name) }},
		},
	}
}

// rule returns the number of the rule that forbids an act, or 0. Both the lock and the act were checked.
func (l Lock) rule(a Act) int {
	table, number := rules(), 0
search:
	for i := range len(table) {
		for _, r := range table[i+1] {
			if slices.Contains(r.kinds, a.Kind) && r.forbids(l, a.Name) {
				number = i + 1
				break search
			}
		}
	}
	return number
}

// next returns the lock behind an act, or ErrRule.
func (l Lock) next(a Act) (Lock, api.Errno) {
	if l.rule(a) != 0 {
		return Lock{}, api.ErrRule
	}
	return l.behind(a), api.OK
}

// Allowed returns the number of the rule that forbids an act, or 0.
func Allowed(l Lock, a Act) (int, api.Errno) {
	if e := check.First(CheckLock(l), CheckAct(a)); e != api.OK {
		return 0, e
	}
	return l.rule(a), api.OK
}

// Next returns the lock behind an act.
func Next(l Lock, a Act) (Lock, api.Errno) {
	if e := check.First(CheckLock(l), CheckAct(a)); e != api.OK {
		return Lock{}, e
	}
	return l.next(a)
}

// Acts returns the kinds of acts that no rule forbids.
func Acts(l Lock, name string) ([]string, api.Errno) {
	if e := check.First(CheckLock(l), checkName(name)); e != api.OK {
		return nil, e
	}
	var out []string
	for _, k := range kinds {
		if l.rule(k.act(name)) == 0 {
			out = append(out, k.word)
		}
	}
	return out, api.OK
}
