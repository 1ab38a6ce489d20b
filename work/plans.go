package work

import (
	"iter"
	"slices"

	"nacelle/api"
	"nacelle/check"
	"nacelle/list"
	"nacelle/site"
	"nacelle/span"
)

// Trip is a vessel, a technician, and when both start.
type Trip struct {
	Vessel     string
	Technician string
	From       int
}

// shares reports whether two trips have the same vessel, or the same technician.
func (t Trip) shares(other Trip) bool {
	return t.Vessel == other.Vessel || t.Technician == other.Technician
}

// task is what plans are made for.
type task struct {
	windows []api.Span
	fleet   Fleet
	jobs    []Job
}

// check returns the first error of a task, or OK.
func (t task) check() api.Errno {
	return check.First(site.CheckSpans(t.windows), CheckFleet(t.fleet), CheckJobs(t.jobs))
}

// end returns the end of a job's trip.
func (t task) end(plan []Trip, job int) int { return plan[job].From + t.jobs[job].Length }

// overlaps reports whether two jobs have trips that share something in a quarter.
func (t task) overlaps(plan []Trip, a, b int) bool {
	return plan[a].shares(plan[b]) && plan[a].From < t.end(plan, b) && plan[b].From < t.end(plan, a)
}

// checkTrip returns the first error of a job's trip in a plan, or OK.
func (t task) checkTrip(plan []Trip, job int) api.Errno {
	trip, needs, end := plan[job], t.jobs[job], t.end(plan, job)
	isNamed := func(x Technician) bool { return x.Name == trip.Technician }
	e := check.First(
		check.That(slices.Contains(t.fleet.Vessels, trip.Vessel), api.ErrUnknown),
		check.That(slices.ContainsFunc(t.fleet.Technicians, isNamed), api.ErrUnknown),
		checkQuarter(trip.From),
		check.That(span.Lies(t.windows, trip.From, needs.Length), api.ErrWeather),
		check.That(slices.ContainsFunc(t.fleet.able(needs.Certificate, end), isNamed), api.ErrRule),
		check.That(end <= needs.Last, api.ErrOver),
	)
	for before := range job {
		e = check.First(e, check.That(!t.overlaps(plan, before, job), api.ErrOverlap))
	}
	return e
}

// CheckPlan returns the end of a plan, or its first error.
func CheckPlan(windows []api.Span, f Fleet, jobs []Job, plan []Trip) (int, api.Errno) {
	t := task{windows: windows, fleet: f, jobs: jobs}
	if e := check.First(t.check(), check.Shape(len(plan), len(jobs))); e != api.OK {
		return 0, e
	}
	end := 0
	for job := range len(jobs) {
		if e := t.checkTrip(plan, job); e != api.OK {
			return 0, e
		}
		end = max(end, t.end(plan, job))
	}
	return end, api.OK
}

// none stands in a plan for a job without a trip. It shares nothing with any trip, as names are not empty.
var none = Trip{}

// search is the search for the best plan of a task: it makes the trips in each order, by each vessel and technician, and each trip as early as those before it let it.
// A plan with the least end is among these: its trips, in the order of their starts, stay where they are or become earlier.
type search struct {
	task
	best  []Trip
	least int // the end of the best plan
}

// earliest returns the earliest trip of a job behind those of a plan with which it shares something, or false if there is none.
func (s *search) earliest(plan []Trip, job int, vessel string, technician Technician) (Trip, bool) {
	trip, needs, ready := Trip{Vessel: vessel, Technician: technician.Name}, s.jobs[job], 0
	for other := range len(s.jobs) {
		if trip.shares(plan[other]) {
			ready = max(ready, s.end(plan, other))
		}
	}
	from, ok := span.Fit(s.windows, ready, needs.Length)
	trip.From = from
	end := from + needs.Length
	return trip, ok && end <= needs.Last && technician.holds(needs.Certificate, end)
}

// extensions visits the plans that have one trip more than a plan, for a job: the earliest one by each vessel and technician.
func (s *search) extensions(plan []Trip, job int) iter.Seq[[]Trip] {
	return func(yield func([]Trip) bool) {
		for _, vessel := range s.fleet.Vessels {
			for _, technician := range s.fleet.Technicians {
				trip, ok := s.earliest(plan, job, vessel, technician)
				out := slices.Clone(plan)
				out[job] = trip
				if ok && !yield(out) {
					return
				}
			}
		}
	}
}

// extend keeps the best one of all plans that have the trips of a plan, which ends at a quarter.
func (s *search) extend(plan []Trip, end int) {
	if end >= s.least {
		return
	}
	if !slices.Contains(plan, none) {
		s.best, s.least = plan, end
		return
	}
	for job := range len(s.jobs) {
		if plan[job] != none {
			continue
		}
		for longer := range s.extensions(plan, job) {
			s.extend(longer, max(end, s.end(longer, job)))
		}
	}
}

// Plan returns a plan with the least end, and this end.
func Plan(windows []api.Span, f Fleet, jobs []Job) ([]Trip, int, api.Errno) {
	t := task{windows: windows, fleet: f, jobs: jobs}
	pairs := len(f.Vessels) * len(f.Technicians)
	if e := check.First(t.check(), check.That(len(jobs) <= MaxSearch && pairs <= MaxPairs, api.ErrLimit)); e != api.OK {
		return nil, 0, e
	}
	never := api.MaxTime + 1 // behind all windows
	s := search{task: t, least: never}
	s.extend(make([]Trip, len(jobs)), 0)
	if s.least == never {
		return nil, 0, api.ErrInfeasible
	}
	return s.best, s.least, api.OK
}

// reached returns the least quarter before which windows have so many quarters, or false if they have fewer.
func reached(windows []api.Span, need int) (int, bool) {
	quarter := 0
	for _, w := range windows {
		if need == 0 {
			break
		}
		taken := min(need, span.Length(w))
		quarter, need = w.From+taken, need-taken
	}
	return quarter, need == 0
}

// Bound returns a quarter before which no plan ends.
func Bound(windows []api.Span, vessels int, jobs []Job) (int, api.Errno) {
	if e := check.First(site.CheckSpans(windows), check.Range(vessels, 1, MaxVessels), CheckJobs(jobs)); e != api.OK {
		return 0, e
	}
	need := list.Sum(list.Changed(jobs, Job.length))
	bound, ok := reached(windows, (need+vessels-1)/vessels)
	for _, job := range jobs {
		from, fits := span.Fit(windows, 0, job.Length)
		bound, ok = max(bound, from+job.Length), ok && fits
	}
	if !ok {
		return 0, api.ErrInfeasible
	}
	return bound, api.OK
}
