package work_test

import (
	"fmt"
	"math"
	"math/rand"
	"slices"
	"strconv"
	"testing"

	"nacelle/api"
	"nacelle/site"
	"nacelle/work"
)

// The zero values of results, which stand beside errors.
var (
	noSpans []api.Span
	noNames []string
	noTrips []work.Trip
	noActs  []work.Act
	noLock  work.Lock
)

// outside are numbers that are in no range.
var outside = []int{math.MinInt, -1, 40001, math.MaxInt}

// results returns all results of a call.
func results(r ...any) []any { return r }

// check reports results that are not the expected ones. Lists without elements are the same.
func check(t *testing.T, what string, got []any, want ...any) {
	t.Helper()
	if g, w := fmt.Sprintf("%+v", got), fmt.Sprintf("%+v", want); g != w {
		t.Errorf("%s: got %.300s, want %.300s", what, g, w)
	}
}

// spans returns the spans from each number to the next one.
func spans(ends ...int) []api.Span {
	var out []api.Span
	for i := 0; i < len(ends); i += 2 {
		out = append(out, api.Span{From: ends[i], To: ends[i+1]})
	}
	return out
}

// series returns a series with the start 100, without gaps.
func series(samples ...float32) site.Series {
	return site.Series{Name: "s", Start: 100, Samples: samples}
}

// gappy returns a series without what it has recorded in some spans.
func gappy(s site.Series, gaps ...int) site.Series {
	s.Samples, s.Gaps = slices.Clone(s.Samples), spans(gaps...)
	for _, g := range s.Gaps {
		clear(s.Samples[g.From:g.To])
	}
	return s
}

// level returns a series of so many equal samples.
func level(count int, sample float32) site.Series {
	return series(slices.Repeat([]float32{sample}, count)...)
}

// breezy returns a forecast with waves, and winds of 5 throughout.
func breezy(wave site.Series) work.Forecast {
	return work.Forecast{Wave: wave, Wind: level(len(wave.Samples), 5)}
}

// usual are the forecasts of the chapter's first example, and moderate are its limits.
func usual() []work.Forecast {
	return []work.Forecast{breezy(series(1, 2, 1, 1, 3, 1)), breezy(series(1, 1, 1, 2.5, 1, 1))}
}

func moderate() work.Limits { return work.Limits{Wave: 2, Wind: 10} }

// comb returns a forecast with so many open quarters, each one alone.
func comb(count int) []work.Forecast {
	return []work.Forecast{breezy(series(slices.Repeat([]float32{1, 3}, count)...))}
}

// technician returns a technician, whose certificates are given by their names and quarters.
func technician(name string, certificates ...any) work.Technician {
	out := work.Technician{Name: name}
	for i := 0; i < len(certificates); i += 2 {
		out.Certificates = append(out.Certificates, work.Certificate{Name: certificates[i].(string), Until: certificates[i+1].(int)})
	}
	return out
}

// crew returns a fleet with vessels and the technicians of the chapter's second example.
func crew(vessels ...string) work.Fleet {
	return work.Fleet{Vessels: vessels, Technicians: []work.Technician{technician("ann", "climb", 10), technician("bob", "climb", 20, "dive", 20)}}
}

// numbered returns so many different names.
func numbered(count int) []string {
	var out []string
	for i := range count {
		out = append(out, "n"+strconv.Itoa(10+i))
	}
	return out
}

// army returns a fleet with so many vessels and technicians, each with so many certificates that are always valid.
func army(vessels, technicians, certificates int) work.Fleet {
	out := work.Fleet{Vessels: numbered(vessels)}
	for _, name := range numbered(technicians) {
		x := technician(name)
		for _, certificate := range numbered(certificates) {
			x.Certificates = append(x.Certificates, work.Certificate{Name: certificate, Until: 40000})
		}
		out.Technicians = append(out.Technicians, x)
	}
	return out
}

// job returns a job.
func job(name, certificate string, length, last int) work.Job {
	return work.Job{Name: name, Certificate: certificate, Length: length, Last: last}
}

// jobs are those of the chapter's third example, calm are its windows.
func jobs() []work.Job {
	return []work.Job{job("j1", "climb", 3, 40), job("j2", "dive", 4, 40), job("j3", "climb", 2, 10)}
}

func calm() []api.Span { return spans(0, 5, 8, 20) }

// equal returns so many jobs of a length, which ask for the first certificate of an army.
func equal(count, length int) []work.Job {
	var out []work.Job
	for _, name := range numbered(count) {
		out = append(out, job(name, "n10", length, 40000))
	}
	return out
}

// trip returns a trip.
func trip(vessel, technician string, from int) work.Trip {
	return work.Trip{Vessel: vessel, Technician: technician, From: from}
}

// act returns an act with a name, or without one.
func act(kind string, name ...string) work.Act {
	return work.Act{Kind: kind, Name: append(name, "")[0]}
}

// acts returns acts without names.
func acts(kinds ...string) []work.Act {
	var out []work.Act
	for _, kind := range kinds {
		out = append(out, act(kind))
	}
	return out
}

// securing are the acts behind which keys are issued.
func securing() []work.Act { return acts("stop", "lock", "fix", "isolate", "prove") }

// lockOf returns a lock whose conditions are given by letters: running, rotor, yaw, dead and proven.
func lockOf(letters string, keys, inside []string) work.Lock {
	is := func(c rune) bool { return slices.Contains([]rune(letters), c) }
	return work.Lock{Running: is('r'), Rotor: is('l'), Yaw: is('y'), Dead: is('d'), Proven: is('p'), Keys: keys, Inside: inside}
}

// names returns a list of names.
func names(l ...string) []string { return l }

// entered is the lock of the chapter's fifth example: ann is inside.
func entered() work.Lock { return lockOf("lydp", names("ann"), names("ann")) }

// number returns a random number, often one of the ends.
func number(r *rand.Rand, least, most int) int {
	switch r.Intn(6) {
	case 0:
		return least
	case 1:
		return most
	}
	return least + r.Intn(most-least+1)
}

// pick returns a random element of a list.
func pick[T any](r *rand.Rand, l []T) T { return l[r.Intn(len(l))] }

// randomSpans returns a canonical list of spans up to a quarter.
func randomSpans(r *rand.Rand, most int) []api.Span {
	var out []api.Span
	for at := r.Intn(4); at < most; at += 1 + r.Intn(3) {
		to := min(at+1+r.Intn(6), most)
		out = append(out, api.Span{From: at, To: to})
		at = to
	}
	return out
}

// randomSeries returns a series of so many samples, with gaps.
func randomSeries(r *rand.Rand, count int) site.Series {
	out := level(count, 0)
	for q := range out.Samples {
		out.Samples[q] = float32(r.Intn(60)-5) / 16
	}
	if r.Intn(2) == 0 {
		return out
	}
	var gaps []int
	for _, g := range randomSpans(r, count) {
		if r.Intn(6) == 0 {
			gaps = append(gaps, g.From, g.To)
		}
	}
	return gappy(out, gaps...)
}

// randomForecasts returns so many forecasts of so many quarters.
func randomForecasts(r *rand.Rand, forecasts, count int) []work.Forecast {
	var out []work.Forecast
	for range forecasts {
		out = append(out, work.Forecast{Wave: randomSeries(r, count), Wind: randomSeries(r, count)})
	}
	return out
}

// randomLimits returns limits that close some quarters of random series.
func randomLimits(r *rand.Rand) work.Limits {
	return work.Limits{Wave: float32(r.Intn(60)) / 16, Wind: float32(20+r.Intn(40)) / 16}
}

// randomTask returns windows, a fleet and at most so many jobs, whose plans are short.
func randomTask(r *rand.Rand, most int) ([]api.Span, work.Fleet, []work.Job) {
	windows := randomSpans(r, 4+r.Intn(9))
	certificates := names("climb", "dive")
	f := work.Fleet{Vessels: numbered(1 + r.Intn(2))}
	for _, name := range numbered(1 + r.Intn(2)) {
		x := technician(name)
		for _, c := range certificates {
			if r.Intn(4) > 0 {
				x.Certificates = append(x.Certificates, work.Certificate{Name: c, Until: 4 + r.Intn(10)})
			}
		}
		f.Technicians = append(f.Technicians, x)
	}
	var l []work.Job
	for _, name := range numbered(r.Intn(most + 1)) {
		l = append(l, job(name, pick(r, certificates), 1+r.Intn(4), 3+r.Intn(11)))
	}
	return windows, f, l
}

// randomTrips returns a trip for each job, mostly of the fleet and in time.
func randomTrips(r *rand.Rand, f work.Fleet, count int) []work.Trip {
	var out []work.Trip
	vessels, technicians := f.Vessels, names("nobody")
	for _, x := range f.Technicians {
		technicians = append(technicians, x.Name, x.Name, x.Name, x.Name)
	}
	for range count {
		out = append(out, trip(pick(r, vessels), pick(r, technicians), r.Intn(14)-1))
	}
	return out
}

// randomAct returns an act that need not be permitted, mostly with one of some names.
func randomAct(r *rand.Rand, people []string) work.Act {
	out := act(pick(r, work.Kinds()))
	if isNamed(out.Kind) {
		out.Name = pick(r, people)
	}
	return out
}

// randomHistory returns a history that is extended by random acts that are permitted.
func randomHistory(r *rand.Rand, count int, people []string) []work.Act {
	var out []work.Act
	at := work.Begin()
	for range count {
		name := pick(r, people)
		kinds, _ := work.Acts(at, name)
		a := act(pick(r, kinds))
		if isNamed(a.Kind) {
			a.Name = name
		}
		if (a.Kind == "start" || a.Kind == "unlock") && r.Intn(3) > 0 {
			continue // so that keys are issued often
		}
		at, _ = work.Next(at, a)
		out = append(out, a)
	}
	return out
}

// slowOpen reports whether a quarter is open.
func slowOpen(l []work.Forecast, x work.Limits, quarter int) bool {
	isIn := func(g api.Span) bool { return g.From <= quarter && quarter < g.To }
	if quarter < 0 || quarter >= len(l[0].Wave.Samples) {
		return false
	}
	for _, f := range l {
		if slices.ContainsFunc(f.Wave.Gaps, isIn) || slices.ContainsFunc(f.Wind.Gaps, isIn) || f.Wave.Samples[quarter] > x.Wave || f.Wind.Samples[quarter] > x.Wind {
			return false
		}
	}
	return true
}

// slowWindows tries all spans: those are windows whose quarters are open, and between quarters that are not.
func slowWindows(l []work.Forecast, x work.Limits, least int) []api.Span {
	var out []api.Span
	for from := range len(l[0].Wave.Samples) {
		to := from
		for slowOpen(l, x, to) {
			to++
		}
		if to-from >= least && !slowOpen(l, x, from-1) {
			out = append(out, api.Span{From: from, To: to})
		}
	}
	return out
}

// slowEnter reports whether so many quarters are open.
func slowEnter(l []work.Forecast, x work.Limits, from, need int) bool {
	for q := from; q < from+need; q++ {
		if !slowOpen(l, x, q) {
			return false
		}
	}
	return true
}

// slowPlanError returns the end of a plan, or its first error, quarter by quarter.
func slowPlanError(windows []api.Span, f work.Fleet, l []work.Job, plan []work.Trip) (int, api.Errno) {
	busy, end := map[string]bool{}, 0
	if len(plan) != len(l) {
		return 0, api.ErrShape
	}
	for i, t := range plan {
		until := t.From + l[i].Length
		known, able := false, false
		for _, x := range f.Technicians {
			if x.Name == t.Technician {
				known = true
				for _, c := range x.Certificates {
					able = able || c.Name == l[i].Certificate && until <= c.Until
				}
			}
		}
		within, free := 0, true
		for q := t.From; q < until; q++ {
			for _, w := range windows {
				if w.From <= t.From && w.From <= q && q < w.To {
					within++
				}
			}
			for _, thing := range names("vessel "+t.Vessel, "technician "+t.Technician) {
				at := thing + " " + strconv.Itoa(q)
				free = free && !busy[at]
				busy[at] = true
			}
		}
		switch {
		case !slices.Contains(f.Vessels, t.Vessel) || !known:
			return 0, api.ErrUnknown
		case t.From < 0 || t.From > 40000:
			return 0, api.ErrRange
		case within < l[i].Length:
			return 0, api.ErrWeather
		case !able:
			return 0, api.ErrRule
		case until > l[i].Last:
			return 0, api.ErrOver
		case !free:
			return 0, api.ErrOverlap
		}
		end = max(end, until)
	}
	return end, api.OK
}

// slowPlan returns the least end of all plans, or -1: it tries all trips that start before a quarter.
func slowPlan(windows []api.Span, f work.Fleet, l []work.Job, before int) int {
	least := -1
	var try func(plan []work.Trip)
	try = func(plan []work.Trip) {
		end, e := slowPlanError(windows, f, l[:len(plan)], plan)
		if e != api.OK || least >= 0 && end >= least {
			return
		}
		if len(plan) == len(l) {
			least = end
			return
		}
		for _, vessel := range f.Vessels {
			for _, x := range f.Technicians {
				for from := range before {
					try(append(slices.Clone(plan), trip(vessel, x.Name, from)))
				}
			}
		}
	}
	try(nil)
	return least
}

// slowBound returns the least quarter up to one that has the properties of the bound, or -1.
func slowBound(windows []api.Span, vessels int, l []work.Job, most int) int {
	for end := range most + 1 {
		all, need, longest := 0, 0, 0
		for _, w := range windows {
			quarters := max(min(w.To, end)-w.From, 0)
			all, longest = all+vessels*quarters, max(longest, quarters)
		}
		fits := true
		for _, j := range l {
			need += j.Length
			fits = fits && j.Length <= longest
		}
		if fits && all >= need {
			return end
		}
	}
	return -1
}

// isNamed reports whether acts of a kind have a name.
func isNamed(kind string) bool {
	return kind == "enter" || kind == "issue" || kind == "leave" || kind == "return"
}

// first returns the first number that is not 0, or 0.
func first(numbers ...int) int {
	for _, n := range numbers {
		if n != 0 {
			return n
		}
	}
	return 0
}

// when returns a number if something holds, or 0.
func when(holds bool, number int) int {
	if holds {
		return number
	}
	return 0
}

// slowRule returns the number of the first rule that forbids an act, kind by kind.
func slowRule(l work.Lock, a work.Act) int {
	out, safe := len(l.Keys) > 0, l.Rotor && l.Yaw && l.Dead && l.Proven
	holds, inside := slices.Contains(l.Keys, a.Name), slices.Contains(l.Inside, a.Name)
	return map[string]int{
		"energize": first(when(out, 1), when(!l.Dead, 5)),
		"free":     first(when(out, 1), when(!l.Yaw, 5)),
		"unlock":   first(when(out, 1), when(!l.Rotor, 5)),
		"start":    first(when(out, 1), when(l.Running || l.Rotor || l.Yaw || l.Dead, 2)),
		"stop":     when(!l.Running, 3),
		"lock":     first(when(l.Running, 4), when(l.Rotor, 5)),
		"fix":      first(when(l.Running, 4), when(l.Yaw, 5)),
		"isolate":  first(when(l.Running, 4), when(l.Dead, 5)),
		"prove":    first(when(l.Running, 4), when(!l.Dead || l.Proven, 5)),
		"issue":    when(!safe || holds || len(l.Keys) == 16, 6),
		"enter":    when(!holds || inside, 7),
		"leave":    when(!inside, 7),
		"return":   when(!holds || inside, 7),
	}[a.Kind]
}

// changed returns names with one more, or without it, ascending.
func changed(l []string, name string, more bool) []string {
	var out []string
	for _, other := range append(slices.Clone(l), name) {
		if (other != name || more) && !slices.Contains(out, other) {
			out = append(out, other)
		}
	}
	slices.Sort(out)
	return out
}

// slowNext returns the lock behind an act that is permitted.
func slowNext(l work.Lock, a work.Act) work.Lock {
	switch a.Kind {
	case "stop":
		l.Running = false
	case "start":
		l.Running = true
	case "lock":
		l.Rotor = true
	case "unlock":
		l.Rotor = false
	case "fix":
		l.Yaw = true
	case "free":
		l.Yaw = false
	case "isolate":
		l.Dead = true
	case "energize":
		l.Dead = false
		l.Proven = false
	case "prove":
		l.Proven = true
	case "issue":
		l.Keys = changed(l.Keys, a.Name, true)
	case "return":
		l.Keys = changed(l.Keys, a.Name, false)
	case "enter":
		l.Inside = changed(l.Inside, a.Name, true)
	case "leave":
		l.Inside = changed(l.Inside, a.Name, false)
	}
	return l
}

// slowPossible reports whether a lock whose names are right is possible.
func slowPossible(l work.Lock) bool {
	if l.Proven && !l.Dead {
		return false
	}
	if l.Running && (l.Rotor || l.Yaw || l.Dead || len(l.Keys) > 0) {
		return false
	}
	if len(l.Keys) > 0 && !(l.Rotor && l.Yaw && l.Dead && l.Proven) {
		return false
	}
	for _, name := range l.Inside {
		if !slices.Contains(l.Keys, name) {
			return false
		}
	}
	return true
}

// allLocks returns the locks with all conditions, and all sets of two names that hold keys or are inside.
func allLocks() []work.Lock {
	var out []work.Lock
	sets := [][]string{nil, names("a"), names("b"), names("a", "b")}
	for i := range 32 {
		for _, keys := range sets {
			for _, inside := range sets {
				out = append(out, work.Lock{Running: i&1 > 0, Rotor: i&2 > 0, Yaw: i&4 > 0, Dead: i&8 > 0, Proven: i&16 > 0, Keys: keys, Inside: inside})
			}
		}
	}
	return out
}
