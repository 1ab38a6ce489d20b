package work_test

import (
	"math/rand"
	"slices"
	"testing"

	"nacelle/api"
	"nacelle/work"
)

// wrongWindows are windows with errors.
var wrongWindows = []struct {
	l []api.Span
	e api.Errno
}{
	{make([]api.Span, 1025), api.ErrMany}, {spans(-1, 5), api.ErrSpan}, {spans(5, 5), api.ErrSpan}, {spans(0, 40001), api.ErrSpan}, {spans(0, 5, 5, 8), api.ErrOrder}, {spans(8, 9, 0, 5), api.ErrOrder}, {spans(0, 5, 3, 2), api.ErrSpan},
}

// best is a plan with the least end for the chapter's third example.
func best() []work.Trip {
	return []work.Trip{trip("v", "ann", 0), trip("v", "bob", 8), trip("v", "ann", 3)}
}

// combs returns so many windows of two quarters.
func combs(count int) []api.Span {
	var out []api.Span
	for i := range count {
		out = append(out, api.Span{From: 4 * i, To: 4*i + 2})
	}
	return out
}

func TestP92CheckPlan(t *testing.T) {
	for _, row := range []struct {
		f    work.Fleet
		l    []work.Job
		plan []work.Trip
		end  int
		e    api.Errno
	}{
		{crew("v"), jobs(), best(), 12, api.OK}, {crew("v"), nil, nil, 0, api.OK}, {crew("v"), jobs()[:1], []work.Trip{trip("v", "bob", 17)}, 20, api.OK}, {crew("v"), jobs()[:1], []work.Trip{trip("v", "ann", 2)}, 5, api.OK}, {crew("v", "w"), jobs(), []work.Trip{trip("v", "ann", 0), trip("w", "bob", 0), trip("v", "ann", 3)}, 5, api.OK}, {crew("v"), jobs(), []work.Trip{trip("v", "bob", 12), trip("v", "bob", 8), trip("v", "ann", 0)}, 15, api.OK},
		{crew("v"), jobs(), nil, 0, api.ErrShape}, {crew("v"), jobs(), best()[:2], 0, api.ErrShape}, {crew("v"), jobs()[:2], best(), 0, api.ErrShape}, {crew("v"), nil, make([]work.Trip, 1), 0, api.ErrShape}, {crew("v"), jobs(), make([]work.Trip, 4), 0, api.ErrShape},
		{crew("v"), jobs()[:1], []work.Trip{{}}, 0, api.ErrUnknown}, {crew("v"), jobs()[:1], []work.Trip{trip("w", "ann", 0)}, 0, api.ErrUnknown}, {crew("v"), jobs()[:1], []work.Trip{trip("v", "eve", -1)}, 0, api.ErrUnknown}, {crew("v"), jobs()[:1], []work.Trip{trip("ann", "v", 0)}, 0, api.ErrUnknown}, {crew("v"), jobs()[:2], []work.Trip{trip("v", "ann", 1), trip("", "ann", -1)}, 0, api.ErrUnknown},
		{crew("v"), jobs()[:1], []work.Trip{trip("v", "ann", -1)}, 0, api.ErrRange}, {crew("v"), jobs()[:1], []work.Trip{trip("v", "ann", 40001)}, 0, api.ErrRange}, {crew("v"), jobs()[:1], []work.Trip{trip("v", "ann", outside[0])}, 0, api.ErrRange}, {crew("v"), jobs()[:1], []work.Trip{trip("v", "ann", outside[3])}, 0, api.ErrRange},
		{crew("v"), jobs()[:1], []work.Trip{trip("v", "ann", 40000)}, 0, api.ErrWeather}, {crew("v"), jobs()[:1], []work.Trip{trip("v", "ann", 3)}, 0, api.ErrWeather}, {crew("v"), jobs()[:1], []work.Trip{trip("v", "ann", 6)}, 0, api.ErrWeather}, {crew("v"), jobs()[:1], []work.Trip{trip("v", "ann", 18)}, 0, api.ErrWeather}, {crew("v"), jobs()[:1], []work.Trip{trip("v", "bob", 7)}, 0, api.ErrWeather},
		{crew("v"), []work.Job{job("j", "climb", 9, 40)}, []work.Trip{trip("v", "bob", 0)}, 0, api.ErrWeather}, {crew("v"), []work.Job{job("j", "climb", 40000, 0)}, []work.Trip{trip("v", "ann", 0)}, 0, api.ErrWeather},
		{crew("v"), jobs()[:1], []work.Trip{trip("v", "ann", 8)}, 0, api.ErrRule}, {crew("v"), jobs()[1:2], []work.Trip{trip("v", "ann", 0)}, 0, api.ErrRule}, {crew("v"), jobs()[2:], []work.Trip{trip("v", "ann", 9)}, 0, api.ErrRule}, {crew("v"), []work.Job{job("j", "fly", 1, 40)}, []work.Trip{trip("v", "bob", 0)}, 0, api.ErrRule}, {crew("v"), jobs()[2:], []work.Trip{trip("v", "ann", 8)}, 10, api.OK},
		{crew("v"), jobs()[2:], []work.Trip{trip("v", "bob", 9)}, 0, api.ErrOver}, {crew("v"), []work.Job{job("j", "climb", 3, 2)}, []work.Trip{trip("v", "ann", 0)}, 0, api.ErrOver}, {crew("v"), []work.Job{job("j", "climb", 3, 3)}, []work.Trip{trip("v", "ann", 0)}, 3, api.OK},
		{crew("v"), jobs(), []work.Trip{trip("v", "ann", 0), trip("v", "bob", 8), trip("v", "ann", 2)}, 0, api.ErrOverlap}, {crew("v", "w"), jobs(), []work.Trip{trip("v", "ann", 0), trip("w", "bob", 8), trip("w", "ann", 2)}, 0, api.ErrOverlap}, {crew("v", "w"), jobs(), []work.Trip{trip("v", "ann", 0), trip("w", "bob", 8), trip("v", "bob", 2)}, 0, api.ErrOverlap}, {crew("v", "w"), jobs(), []work.Trip{trip("v", "ann", 0), trip("w", "bob", 8), trip("w", "bob", 2)}, 12, api.OK}, {crew("v"), jobs(), []work.Trip{trip("v", "bob", 8), trip("v", "bob", 8), {}}, 0, api.ErrOverlap}, {crew("v"), jobs(), []work.Trip{trip("v", "bob", 11), trip("v", "bob", 8), trip("v", "ann", 0)}, 0, api.ErrOverlap}, {crew("v"), jobs(), []work.Trip{trip("v", "bob", 12), trip("v", "bob", 9), trip("v", "ann", 0)}, 0, api.ErrOverlap}, {crew("v"), jobs(), []work.Trip{trip("v", "ann", 0), trip("v", "bob", 8), trip("v", "ann", 0)}, 0, api.ErrOverlap}, {crew("v"), jobs(), []work.Trip{trip("v", "ann", 1), trip("v", "bob", 8), trip("v", "ann", 0)}, 0, api.ErrOverlap},
	} {
		check(t, "CheckPlan", results(work.CheckPlan(calm(), row.f, row.l, row.plan)), row.end, row.e)
	}
	var row []work.Trip
	for i := range 32 {
		row = append(row, trip("n10", "n10", 1250*i))
	}
	check(t, "CheckPlan of all quarters", results(work.CheckPlan(spans(0, 40000), army(1, 1, 1), equal(32, 1250), row)), 40000, api.OK)
	row[31].From--
	check(t, "CheckPlan of all quarters but one", results(work.CheckPlan(spans(0, 40000), army(1, 1, 1), equal(32, 1250), row)), 0, api.ErrOverlap)
}

func TestP92Plan(t *testing.T) {
	urgent, late := jobs(), jobs()
	urgent[1].Last, late[1].Last, late[0].Last = 4, 4, 4
	for _, row := range []struct {
		windows []api.Span
		f       work.Fleet
		l       []work.Job
		want    int
		e       api.Errno
	}{
		{calm(), crew("v"), jobs(), 12, api.OK}, {calm(), crew("v", "w"), jobs(), 5, api.OK}, {calm(), crew("v"), nil, 0, api.OK}, {nil, army(1, 0, 0), nil, 0, api.OK}, {nil, crew("v"), jobs(), 0, api.ErrInfeasible}, {calm(), army(1, 0, 0), jobs()[:1], 0, api.ErrInfeasible}, {calm(), fleetOf(technician("a")), jobs()[:1], 0, api.ErrInfeasible},
		{calm(), crew("v"), urgent, 13, api.OK}, {calm(), crew("v"), late, 0, api.ErrInfeasible}, {calm(), crew("v", "w"), late, 5, api.OK}, {spans(0, 11), crew("v"), urgent, 9, api.OK}, {spans(0, 5, 8, 20), crew("v"), []work.Job{job("j", "climb", 6, 13)}, 0, api.ErrInfeasible}, {spans(0, 5, 8, 20), crew("v"), []work.Job{job("j", "climb", 6, 14)}, 14, api.OK}, {spans(0, 5, 14, 20), crew("v"), []work.Job{job("j", "climb", 6, 20)}, 20, api.OK}, {spans(0, 5, 15, 21), crew("v"), []work.Job{job("j", "climb", 6, 21)}, 0, api.ErrInfeasible},
		{calm(), army(3, 3, 1), equal(4, 5), 13, api.OK}, {calm(), army(1, 8, 1), equal(4, 5), 0, api.ErrInfeasible}, {calm(), army(1, 8, 1), equal(4, 4), 20, api.OK}, {calm(), army(4, 2, 1), equal(4, 5), 13, api.OK}, {calm(), army(1, 9, 1), equal(4, 5), 0, api.ErrInfeasible}, {spans(0, 40000), army(1, 1, 1), equal(4, 10000), 40000, api.OK}, {spans(0, 40000), army(1, 1, 1), equal(4, 10001), 0, api.ErrInfeasible}, {spans(0, 39999), army(1, 1, 1), equal(4, 10000), 0, api.ErrInfeasible}, {combs(1024), army(3, 3, 1), equal(4, 2), 6, api.OK}, {combs(1024), army(3, 3, 1), equal(4, 3), 0, api.ErrInfeasible},
		{calm(), army(2, 5, 1), equal(1, 1), 0, api.ErrLimit}, {calm(), army(5, 2, 1), nil, 0, api.ErrLimit}, {calm(), army(8, 16, 1), equal(4, 1), 0, api.ErrLimit}, {nil, army(1, 1, 1), equal(5, 1), 0, api.ErrLimit}, {nil, army(1, 10, 0), equal(1, 1), 0, api.ErrLimit}, {calm(), army(8, 1, 1), equal(4, 1), 4, api.OK}, {calm(), army(8, 0, 1), equal(4, 1), 0, api.ErrInfeasible},
	} {
		plan, end, e := work.Plan(row.windows, row.f, row.l)
		check(t, "Plan", results(end, e), row.want, row.e)
		if row.e == api.OK {
			check(t, "the end of the best plan", results(work.CheckPlan(row.windows, row.f, row.l, plan)), end, api.OK)
		} else {
			check(t, "Plan beside an error", results(plan), noTrips)
		}
	}
}

func TestP92Bound(t *testing.T) {
	for _, row := range []struct {
		windows []api.Span
		vessels int
		l       []work.Job
		want    int
		e       api.Errno
	}{
		{calm(), 1, jobs(), 12, api.OK}, {calm(), 2, jobs(), 5, api.OK}, {calm(), 8, jobs(), 4, api.OK}, {calm(), 3, jobs(), 4, api.OK}, {calm(), 1, nil, 0, api.OK}, {nil, 8, nil, 0, api.OK}, {nil, 1, jobs(), 0, api.ErrInfeasible}, {spans(5, 6), 1, nil, 0, api.OK},
		{calm(), 1, equal(1, 1), 1, api.OK}, {spans(7, 9), 1, equal(1, 1), 8, api.OK}, {spans(7, 9), 1, equal(2, 1), 9, api.OK}, {spans(7, 9), 1, equal(3, 1), 0, api.ErrInfeasible}, {spans(7, 9), 2, equal(3, 1), 9, api.OK}, {spans(7, 9), 2, equal(4, 1), 9, api.OK}, {spans(7, 9), 2, equal(5, 1), 0, api.ErrInfeasible},
		{calm(), 1, equal(1, 5), 5, api.OK}, {calm(), 1, equal(1, 6), 14, api.OK}, {calm(), 8, equal(1, 12), 20, api.OK}, {calm(), 8, equal(1, 13), 0, api.ErrInfeasible}, {calm(), 1, equal(2, 5), 13, api.OK}, {calm(), 1, equal(17, 1), 20, api.OK}, {calm(), 1, equal(18, 1), 0, api.ErrInfeasible}, {calm(), 1, []work.Job{job("j", "fly", 3, 0)}, 3, api.OK},
		{spans(0, 40000), 8, equal(32, 10000), 40000, api.OK}, {spans(0, 40000), 8, equal(32, 40000), 0, api.ErrInfeasible}, {spans(0, 40000), 1, equal(1, 40000), 40000, api.OK}, {combs(1024), 1, equal(32, 2), 126, api.OK}, {combs(1024), 1, equal(1, 3), 0, api.ErrInfeasible}, {spans(0, 40000), 8, append(equal(31, 1), job("j", "n10", 30000, 5)), 30000, api.OK},
	} {
		check(t, "Bound", results(work.Bound(row.windows, row.vessels, row.l)), row.want, row.e)
	}
}

func TestP92Errors(t *testing.T) {
	bad, many := []work.Job{{}}, make([]work.Trip, 7)
	for _, row := range wrongWindows {
		check(t, "CheckPlan", results(work.CheckPlan(row.l, work.Fleet{}, bad, many)), 0, row.e)
		check(t, "Plan", results(work.Plan(row.l, work.Fleet{}, bad)), noTrips, 0, row.e)
		check(t, "Bound", results(work.Bound(row.l, 0, bad)), 0, row.e)
	}
	for _, row := range wrongFleets {
		check(t, "CheckPlan", results(work.CheckPlan(calm(), row.f, bad, many)), 0, row.e)
		check(t, "Plan", results(work.Plan(calm(), row.f, bad)), noTrips, 0, row.e)
	}
	for _, row := range wrongJobs {
		check(t, "CheckPlan", results(work.CheckPlan(calm(), crew("v"), row.l, many)), 0, row.e)
		check(t, "Plan", results(work.Plan(calm(), army(8, 8, 1), row.l)), noTrips, 0, row.e)
		check(t, "Bound", results(work.Bound(calm(), 1, row.l)), 0, row.e)
	}
	for _, vessels := range append([]int{0, 9}, outside...) {
		check(t, "Bound", results(work.Bound(calm(), vessels, bad)), 0, api.ErrRange)
	}
}

func TestP92Otherwise(t *testing.T) {
	r := rand.New(rand.NewSource(2))
	found := map[api.Errno]int{}
	for range 8000 {
		windows, f, l := randomTask(r, 3)
		if r.Intn(2) == 0 {
			windows = spans(0, 14)
		}
		plan := randomTrips(r, f, len(l))
		end, e := slowPlanError(windows, f, l, plan)
		found[e]++
		check(t, "CheckPlan", results(work.CheckPlan(windows, f, l, plan)), end, e)
	}
	for _, e := range []api.Errno{api.OK, api.ErrUnknown, api.ErrRange, api.ErrWeather, api.ErrRule, api.ErrOver, api.ErrOverlap} {
		check(t, "an error is found often", results(found[e] > 50, e), true, e)
	}
}

func TestP92BestOtherwise(t *testing.T) {
	r := rand.New(rand.NewSource(3))
	found := map[int]int{}
	for i := range 600 {
		windows, f, l := randomTask(r, 3+i%2)
		plan, end, e := work.Plan(windows, f, l)
		want := slowPlan(windows, f, l, 14)
		found[want]++
		if want < 0 {
			check(t, "Plan", results(plan, end, e), noTrips, 0, api.ErrInfeasible)
			continue
		}
		check(t, "Plan", results(end, e), want, api.OK)
		check(t, "the end of the best plan", results(work.CheckPlan(windows, f, l, plan)), end, api.OK)
	}
	check(t, "some have a plan", results(found[-1] > 50, found[-1] < 550, len(found) > 8), true, true, true)
	for range 2000 {
		windows, _, l := randomTask(r, 4)
		vessels := 1 + r.Intn(3)
		want, e := slowBound(windows, vessels, l, 20), api.OK
		if want < 0 {
			want, e = 0, api.ErrInfeasible
		}
		check(t, "Bound", results(work.Bound(windows, vessels, l)), want, e)
	}
}

func TestP92OrderOfJobs(t *testing.T) {
	backwards := jobs()
	slices.Reverse(backwards)
	plan, end, e := work.Plan(calm(), crew("v"), backwards)
	check(t, "Plan in another order", results(end, e), 12, api.OK)
	slices.Reverse(plan)
	check(t, "the same plan", results(work.CheckPlan(calm(), crew("v"), jobs(), plan)), 12, api.OK)
}
