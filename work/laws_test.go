package work_test

import (
	"fmt"
	"math"
	"math/rand"
	"slices"
	"testing"

	"nacelle/api"
	"nacelle/site"
	"nacelle/work"
)

func TestP95MoreForecastsOpenNoQuarter(t *testing.T) {
	r := rand.New(rand.NewSource(5))
	fewer := 0
	for range 500 {
		l, x := randomForecasts(r, 2+r.Intn(3), 1+r.Intn(40)), randomLimits(r)
		all, e := work.Windows(l, x, 1)
		some, _ := work.Windows(l[1:], x, 1)
		opened, _ := site.Minus(all, some)
		check(t, "what one forecast more opens", results(opened, e), noSpans, api.OK)
		if len(all) > 0 && len(some) > len(all) {
			fewer++
		}
		from, need := r.Intn(40), 1+r.Intn(4)
		if work.Enter(l, x, from, need) == api.OK {
			check(t, "Enter with a forecast less", results(work.Enter(l[1:], x, from, need)), api.OK)
		}
		first, e := work.Earliest(l, x, from, need)
		before, less := work.Earliest(l[1:], x, from, need)
		check(t, "the earliest quarter is not earlier", results(e != api.OK || less == api.OK && before <= first), true)
	}
	check(t, "some windows are closed", results(fewer > 10), true)
}

func TestP95WindowsAreEntered(t *testing.T) {
	r := rand.New(rand.NewSource(6))
	for range 300 {
		l, x, least := randomForecasts(r, 1+r.Intn(2), 1+r.Intn(40)), randomLimits(r), 1+r.Intn(3)
		windows, e := work.Windows(l, x, least)
		check(t, "windows are a canonical list", results(e, site.CheckSpans(windows)), api.OK, api.OK)
		for _, w := range windows {
			length := w.To - w.From
			check(t, "entering a window", results(length >= least, work.Enter(l, x, w.From, length), work.Enter(l, x, w.From, length+1)), true, api.OK, api.ErrWeather)
			check(t, "the earliest quarter of a window", results(work.Earliest(l, x, w.From, length)), w.From, api.OK)
			for _, f := range l {
				waves, _ := site.Spells(f.Wave, x.Wave, length)
				winds, _ := site.Spells(f.Wind, x.Wind, length)
				both, _ := site.Meet(waves, winds)
				outside, _ := site.Minus([]api.Span{w}, both)
				check(t, "what no forecast keeps open", results(outside), noSpans)
			}
		}
	}
}

// TestP95NoPlanEndsBefore: no plan ends before the best one, nor before the bound by all vessels.
func TestP95NoPlanEndsBefore(t *testing.T) {
	r := rand.New(rand.NewSource(7))
	plans := 0
	for range 3000 {
		windows, f, l := randomTask(r, 4)
		best, least, e := work.Plan(windows, f, l)
		if e != api.OK {
			check(t, "Plan", results(best, least, e), noTrips, 0, api.ErrInfeasible)
		} else {
			bound, e := work.Bound(windows, len(f.Vessels), l)
			check(t, "the bound", results(bound <= least, e), true, api.OK)
			check(t, "the best plan", results(work.CheckPlan(windows, f, l, best)), least, api.OK)
		}
		for range 5 {
			end, other := work.CheckPlan(windows, f, l, randomTrips(r, f, len(l)))
			if other == api.OK && len(l) > 0 {
				plans++
				check(t, "another plan", results(e, end >= least), api.OK, true)
			}
		}
	}
	check(t, "some plans are met", results(plans > 100), true)
}

// TestP95LargePlans: also plans of more jobs than are searched for end at the bound, or behind it.
func TestP95LargePlans(t *testing.T) {
	r := rand.New(rand.NewSource(8))
	for range 200 {
		windows, f, l := randomSpans(r, 200), army(1+r.Intn(3), 3, 1), equal(1+r.Intn(12), 1+r.Intn(3))
		var plan []work.Trip
		at := 0
		for range l {
			from := at
			for !slices.ContainsFunc(windows, func(w api.Span) bool { return w.From <= from && from+l[0].Length <= w.To }) && from < 200 {
				from++
			}
			plan = append(plan, trip("n10", "n11", from))
			at = from + l[0].Length
		}
		end, e := work.CheckPlan(windows, f, l, plan)
		bound, infeasible := work.Bound(windows, len(f.Vessels), l)
		check(t, "the bound of a plan", results(e != api.OK || infeasible == api.OK && bound <= end), true)
	}
}

func TestP95NobodyIsInside(t *testing.T) {
	r := rand.New(rand.NewSource(9))
	people, entered := names("a", "b", "c", "d"), 0
	for range 100 {
		history := randomHistory(r, 60, people)
		at := work.Begin()
		for i, a := range history {
			check(t, "Allowed", results(work.Allowed(at, a)), 0, api.OK)
			next, e := work.Next(at, a)
			check(t, "the lock behind an act is possible", results(e, work.CheckLock(next)), api.OK, api.OK)
			at = next
			replayed, number, e := work.Replay(history[:i+1])
			check(t, "Replay", results(replayed, number, e), at, 0, api.OK)
			if len(at.Inside) > 0 {
				entered++
			}
			if len(at.Keys)+len(at.Inside) == 0 {
				continue
			}
			check(t, "a lock with a key, or with somebody inside", results(at.Running, at.Rotor, at.Yaw, at.Dead, at.Proven), false, true, true, true, true)
			for _, kind := range names("energize", "free", "start", "unlock") {
				check(t, "nothing is released while a key is out", results(work.Allowed(at, act(kind))), 1, api.OK)
			}
		}
	}
	check(t, "somebody is inside often", results(entered > 200), true)
}

// TestP95RefusedActs: an act that a rule forbids is the first error of a history, with its number.
func TestP95RefusedActs(t *testing.T) {
	r := rand.New(rand.NewSource(10))
	refused := map[int]bool{}
	for range 2000 {
		history := randomHistory(r, r.Intn(30), names("a", "b"))
		at, _, _ := work.Replay(history)
		a := randomAct(r, names("a", "b", "c"))
		rule, e := work.Allowed(at, a)
		check(t, "Allowed", results(rule, e), slowRule(at, a), api.OK)
		refused[rule] = true
		longer := append(slices.Clone(history), a, act("x"))
		if rule > 0 {
			check(t, "Replay", results(work.Replay(longer)), noLock, len(history)+1, api.ErrRule)
		} else {
			check(t, "Replay", results(work.Replay(longer)), noLock, len(history)+2, api.ErrKind)
		}
	}
	check(t, "the rules that are told", results(len(refused)), 8)
}

// distances returns how many acts it takes at least from each lock that is reached from a lock to the one that runs.
func distances(from work.Lock, people []string) map[string]int {
	next := map[string][]string{}
	todo := []work.Lock{from}
	key := func(l work.Lock) string { return fmt.Sprintf("%+v", l) }
	for len(todo) > 0 {
		l := todo[0]
		todo = todo[1:]
		if _, seen := next[key(l)]; seen {
			continue
		}
		next[key(l)] = nil
		for _, name := range people {
			kinds, _ := work.Acts(l, name)
			for _, kind := range kinds {
				a := act(kind)
				if isNamed(kind) {
					a.Name = name
				}
				behind, _ := work.Next(l, a)
				next[key(l)] = append(next[key(l)], key(behind))
				todo = append(todo, behind)
			}
		}
	}
	out := map[string]int{key(work.Begin()): 0}
	for length := 1; len(out) < len(next); length++ {
		var found []string
		for l, behind := range next {
			_, known := out[l]
			if !known && slices.ContainsFunc(behind, func(b string) bool { n, ok := out[b]; return ok && n < length }) {
				found = append(found, l)
			}
		}
		for _, l := range found {
			out[l] = length
		}
	}
	return out
}

// TestP95Releases: a release makes the turbine run, and no fewer acts do.
func TestP95Releases(t *testing.T) {
	least := distances(work.Begin(), names("a", "b"))
	check(t, "locks that are reached", results(len(least)), 21)
	for _, l := range allLocks() {
		if !slowPossible(l) {
			continue
		}
		release, e := work.Release(l)
		check(t, "Release", results(len(release), e), least[fmt.Sprintf("%+v", l)], api.OK)
		at := l
		for _, a := range release {
			at, e = work.Next(at, a)
			check(t, "an act of a release", results(e), api.OK)
		}
		check(t, "the lock behind a release", results(at), work.Begin())
	}
	r := rand.New(rand.NewSource(11))
	for range 300 {
		history := randomHistory(r, 80, numbered(6))
		at, _, _ := work.Replay(history)
		release, e := work.Release(at)
		check(t, "Release", results(e), api.OK)
		check(t, "a history with its release", results(work.Replay(append(slices.Clone(history), release...))), work.Begin(), 0, api.OK)
	}
}

func TestP95Texts(t *testing.T) {
	r := rand.New(rand.NewSource(12))
	for range 300 {
		history := randomHistory(r, r.Intn(200), names("ann", "bob", fitting))
		s, e := work.Print(history)
		check(t, "Print", results(e), api.OK)
		check(t, "what was printed is parsed", results(work.Parse(s)), history, 0, api.OK)
	}
}

// TestP1ArgumentsStay: no function changes its arguments, or shares memory with them, or with an earlier result.
func TestP1ArgumentsStay(t *testing.T) {
	l := usual()
	windows, _ := work.Windows(l, moderate(), 1)
	windows[0].To = 77
	work.Enter(l, moderate(), 0, 1)
	work.Earliest(l, moderate(), 0, 1)
	check(t, "forecasts", results(l), usual())
	f, some, all, plan := crew("v"), jobs(), calm(), best()
	able, _ := work.Able(f, "climb", 1)
	able[0] = "x"
	made, _, _ := work.Plan(all, f, some)
	made[0] = trip("x", "x", 77)
	work.CheckPlan(all, f, some, plan)
	work.Bound(all, 1, some)
	check(t, "a fleet, jobs, windows and a plan", results(f, some, all, plan), crew("v"), jobs(), calm(), best())
	again, _, _ := work.Plan(all, f, some)
	check(t, "another plan", results(work.CheckPlan(all, f, some, again)), 12, api.OK)
}

// TestP1LocksStay: a lock behind an act shares no names with the one before it, also if the act leaves them as they are.
func TestP1LocksStay(t *testing.T) {
	before := func() work.Lock { return lockOf("lydp", names("a", "b", "c"), names("b")) }
	for _, a := range []work.Act{act("enter", "a"), act("leave", "b"), act("issue", "d"), act("issue", "A"), act("return", "c")} {
		l := before()
		l.Keys, l.Inside = append(make([]string, 0, 9), l.Keys...), append(make([]string, 0, 9), l.Inside...)
		spare := l.Keys[:9]
		next, e := work.Next(l, a)
		check(t, "Next", results(e, l), api.OK, before())
		want := fmt.Sprintf("%+v", next)
		l.Keys[0], l.Inside[0], spare[3] = "x", "x", "x"
		check(t, "the lock behind an act", results(fmt.Sprintf("%+v", next)), want)
		l = before()
		next, _ = work.Next(l, a)
		clear(next.Keys)
		clear(next.Inside)
		check(t, "the lock before an act", results(l), before())
	}
	l := before()
	work.Acts(l, "a")
	work.Allowed(l, act("issue", "A"))
	release, _ := work.Release(l)
	release[0] = act("x")
	check(t, "a lock that is released", results(l), before())
	history := append(securing(), act("issue", "ann"))
	work.Replay(history)
	work.Print(history)
	check(t, "a history", results(history), append(securing(), act("issue", "ann")))
}

// TestP1AnyWeather: no function of windows and plans panics or runs on, whatever its arguments are.
func TestP1AnyWeather(t *testing.T) {
	ends := []int{math.MinInt, -1, 0, 1, 2, 8, 9, 40000, 40001, math.MaxInt}
	odd := site.Series{Name: "s", Start: 0, Samples: []float32{1}, Gaps: spans(5, 2, math.MinInt, math.MaxInt)}
	forecasts := [][]work.Forecast{nil, {{}}, {breezy(odd)}, {{Wave: odd, Wind: series()}}, usual(), append(usual(), work.Forecast{})}
	for _, x := range ends {
		for _, y := range ends {
			for _, l := range forecasts {
				for _, limits := range []work.Limits{moderate(), {Wave: float32(x), Wind: float32(y)}, {Wave: float32(math.NaN())}} {
					work.Windows(l, limits, x)
					work.Enter(l, limits, x, y)
					work.Earliest(l, limits, x, y)
				}
			}
			for _, windows := range [][]api.Span{calm(), spans(x, y), spans(0, 5, x, y)} {
				for _, f := range []work.Fleet{{}, crew("v"), fleetOf(technician("a", "climb", x))} {
					work.Able(f, "climb", x)
					for _, l := range [][]work.Job{nil, jobs(), {{}}, {job("j", "climb", x, y)}, {job("j", "climb", 3, x), job("k", "climb", y, 9)}} {
						work.CheckPlan(windows, f, l, best())
						work.CheckPlan(windows, f, l, []work.Trip{trip("v", "ann", x)})
						work.CheckPlan(windows, f, l, []work.Trip{trip("v", "bob", x), trip("v", "ann", y)})
						work.Plan(windows, f, l)
						work.Bound(windows, x, l)
					}
				}
			}
		}
	}
}

// TestP1AnyLock: no function of locks and texts panics, whatever its arguments are.
func TestP1AnyLock(t *testing.T) {
	lists := [][]string{nil, {""}, names("a"), names("b", "a"), names("\xff"), numbered(17)}
	words := names("", "\xff", "stop", "issue", "return", "leave", "enter", "a", long, "\n", " ")
	for _, conditions := range names("", "r", "rlydp", "lydp", "p") {
		for _, keys := range lists {
			for _, inside := range lists {
				l := lockOf(conditions, keys, inside)
				work.Release(l)
				for _, kind := range words {
					work.Acts(l, kind)
					for _, name := range words {
						work.Allowed(l, act(kind, name))
						work.Next(l, act(kind, name))
					}
				}
			}
		}
	}
	for _, kind := range words {
		for _, name := range words {
			l := append(securing(), act(kind, name))
			work.Replay(l)
			work.Print(l)
			work.Parse(kind + " " + name + "\n")
			work.Parse(kind + name)
		}
	}
}
