package work_test

import (
	"slices"
	"strings"
	"testing"

	"nacelle/api"
	"nacelle/work"
)

// long is a name that is just too long, and fitting one that is not.
var (
	long    = strings.Repeat("n", 25)
	fitting = strings.Repeat("n", 24)
)

// fleetOf returns a fleet with a vessel and some technicians.
func fleetOf(technicians ...work.Technician) work.Fleet {
	return work.Fleet{Vessels: names("v"), Technicians: technicians}
}

// wrongFleets are fleets with errors.
var wrongFleets = []struct {
	f work.Fleet
	e api.Errno
}{
	{work.Fleet{}, api.ErrEmpty}, {work.Fleet{Technicians: make([]work.Technician, 17)}, api.ErrEmpty}, {army(9, 1, 1), api.ErrMany}, {work.Fleet{Vessels: make([]string, 9)}, api.ErrMany},
	{crew(""), api.ErrName}, {crew("1v"), api.ErrName}, {crew("v", "v w"), api.ErrName}, {crew(long), api.ErrName}, {crew("v", "", "v"), api.ErrName}, {crew("v", "v"), api.ErrTwice}, {crew("v", "w", "v", ""), api.ErrTwice}, {crew("v", "v", "?"), api.ErrTwice}, {work.Fleet{Vessels: names("v", "v"), Technicians: make([]work.Technician, 17)}, api.ErrTwice},
	{army(1, 17, 1), api.ErrMany}, {work.Fleet{Vessels: names("v"), Technicians: make([]work.Technician, 17)}, api.ErrMany},
	{fleetOf(work.Technician{}), api.ErrName}, {fleetOf(technician("a"), technician("_")), api.ErrName}, {fleetOf(technician("a"), technician("a", "", 0)), api.ErrTwice}, {fleetOf(technician("a"), technician("b"), technician("a"), technician("")), api.ErrTwice}, {fleetOf(technician("a"), technician(""), technician("a")), api.ErrName},
	{fleetOf(army(1, 1, 9).Technicians...), api.ErrMany}, {fleetOf(work.Technician{Name: "a", Certificates: make([]work.Certificate, 9)}), api.ErrMany}, {fleetOf(technician("n10"), army(1, 1, 9).Technicians[0]), api.ErrTwice}, {fleetOf(work.Technician{Certificates: make([]work.Certificate, 9)}), api.ErrName},
	{fleetOf(technician("a", "", -1)), api.ErrName}, {fleetOf(technician("a", "c", 1, long, 1)), api.ErrName}, {fleetOf(technician("a", "c", -1)), api.ErrRange}, {fleetOf(technician("a", "c", 40001)), api.ErrRange}, {fleetOf(technician("a", "c", 1, "c", -1)), api.ErrRange}, {fleetOf(technician("a", "c", outside[0])), api.ErrRange}, {fleetOf(technician("a", "c", outside[3])), api.ErrRange}, {fleetOf(technician("a", "c", 1, "c", 2)), api.ErrTwice}, {fleetOf(technician("a", "c", 1, "d", 1, "c", 1, "", -1)), api.ErrTwice}, {fleetOf(technician("a", "c", -1), technician("")), api.ErrRange}, {fleetOf(technician("a", "c", 1), technician("b", "c", 1, "c", 1)), api.ErrTwice},
}

// wrongJobs are jobs with errors.
var wrongJobs = []struct {
	l []work.Job
	e api.Errno
}{
	{equal(33, 1), api.ErrMany}, {make([]work.Job, 33), api.ErrMany},
	{[]work.Job{{}}, api.ErrName}, {[]work.Job{job("", "c", 1, 1)}, api.ErrName}, {[]work.Job{job("j", "", 1, 1)}, api.ErrName}, {[]work.Job{job("j", "c c", 0, -1)}, api.ErrName}, {[]work.Job{job(long, "c", 0, -1)}, api.ErrName}, {[]work.Job{job("j", "c", 1, 1), job("j", "", 1, 1)}, api.ErrName},
	{[]work.Job{job("j", "c", 0, 1)}, api.ErrRange}, {[]work.Job{job("j", "c", 40001, 1)}, api.ErrRange}, {[]work.Job{job("j", "c", 1, -1)}, api.ErrRange}, {[]work.Job{job("j", "c", 1, 40001)}, api.ErrRange}, {[]work.Job{job("j", "c", 1, 1), job("j", "c", 0, 1)}, api.ErrRange}, {[]work.Job{job("j", "c", 1, 1), job("j", "c", 1, -1)}, api.ErrRange}, {[]work.Job{job("j", "c", outside[0], 1)}, api.ErrRange}, {[]work.Job{job("j", "c", outside[3], 1)}, api.ErrRange}, {[]work.Job{job("j", "c", 1, outside[0])}, api.ErrRange}, {[]work.Job{job("j", "c", 1, outside[3])}, api.ErrRange}, {[]work.Job{job("j", "c", 0, 1), job("", "c", 1, 1)}, api.ErrRange},
	{[]work.Job{job("j", "c", 1, 1), job("j", "d", 2, 2)}, api.ErrTwice}, {append(jobs(), job("j1", "c", 1, 1), job("", "", 0, 0)), api.ErrTwice},
}

func TestP92Fleets(t *testing.T) {
	same := fleetOf(technician("v", "v", 0), technician("w", "v", 40000, "w", 0))
	for _, f := range []work.Fleet{crew("v"), crew("v", "w"), army(8, 16, 8), army(1, 0, 0), fleetOf(technician(fitting, fitting, 0)), same} {
		check(t, "CheckFleet", results(work.CheckFleet(f)), api.OK)
	}
	for _, row := range wrongFleets {
		check(t, "CheckFleet", results(work.CheckFleet(row.f), row.f), row.e, row.f)
	}
}

func TestP92Able(t *testing.T) {
	for _, row := range []struct {
		f           work.Fleet
		certificate string
		until       int
		want        []string
	}{
		{crew("v"), "climb", 10, names("ann", "bob")}, {crew("v"), "climb", 11, names("bob")}, {crew("v"), "climb", 0, names("ann", "bob")}, {crew("v"), "climb", 20, names("bob")}, {crew("v"), "climb", 21, nil}, {crew("v"), "climb", 40000, nil}, {crew("v"), "dive", 5, names("bob")}, {crew("v"), "fly", 0, nil}, {crew("v"), "Climb", 0, nil},
		{fleetOf(technician("z", "c", 5), technician("b"), technician("m", "d", 9, "c", 5), technician("a", "c", 5)), "c", 5, names("z", "m", "a")}, {army(8, 16, 8), "n17", 40000, numbered(16)}, {army(1, 0, 0), "c", 0, nil},
	} {
		check(t, "Able", results(work.Able(row.f, row.certificate, row.until)), row.want, api.OK)
	}
	for _, row := range wrongFleets {
		check(t, "Able", results(work.Able(row.f, "", -1)), noNames, row.e)
	}
	for _, certificate := range names("", "1", long, "a b", "\xff") {
		check(t, "Able", results(work.Able(crew("v"), certificate, -1)), noNames, api.ErrName)
	}
	for _, until := range outside {
		check(t, "Able", results(work.Able(crew("v"), "climb", until)), noNames, api.ErrRange)
	}
}

func TestP92Jobs(t *testing.T) {
	for _, l := range [][]work.Job{nil, jobs(), equal(32, 40000), {job("c", "c", 40000, 0)}, {job(fitting, fitting, 1, 40000), job("j", fitting, 1, 0)}} {
		check(t, "CheckJobs", results(work.CheckJobs(l)), api.OK)
	}
	for _, row := range wrongJobs {
		check(t, "CheckJobs", results(work.CheckJobs(row.l), row.l), row.e, row.l)
	}
	backwards := jobs()
	slices.Reverse(backwards)
	check(t, "CheckJobs in another order", results(work.CheckJobs(backwards)), api.OK)
}
