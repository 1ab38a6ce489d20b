package work

import (
	"slices"

	"nacelle/api"
	"nacelle/check"
	"nacelle/list"
)

// Certificate is a name, and the quarter until which it is valid.
type Certificate struct {
	Name  string
	Until int
}

// checkCertificates returns the first error of the certificates of a technician, or OK.
func checkCertificates(l []Certificate) api.Errno {
	once := check.Once()
	return check.First(check.Many(len(l), MaxCertificates), check.Each(l, func(c Certificate) api.Errno {
		return check.First(checkName(c.Name), checkQuarter(c.Until), once(c.Name))
	}))
}

// Technician is a person with certificates.
type Technician struct {
	Name         string
	Certificates []Certificate
}

// name returns the name of a technician.
func (t Technician) name() string { return t.Name }

// holds reports whether a technician has a certificate until a quarter, or longer.
func (t Technician) holds(certificate string, until int) bool {
	return slices.ContainsFunc(t.Certificates, func(c Certificate) bool { return c.Name == certificate && c.Until >= until })
}

// Fleet is vessels and technicians.
type Fleet struct {
	Vessels     []string
	Technicians []Technician
}

// CheckFleet returns the first error of a fleet, or OK.
func CheckFleet(f Fleet) api.Errno {
	onceVessel, onceTechnician := check.Once(), check.Once()
	return check.First(
		check.Filled(len(f.Vessels), MaxVessels),
		check.Each(f.Vessels, func(vessel string) api.Errno { return check.First(checkName(vessel), onceVessel(vessel)) }),
		check.Many(len(f.Technicians), MaxTechnicians),
		check.Each(f.Technicians, func(t Technician) api.Errno {
			return check.First(checkName(t.Name), onceTechnician(t.Name), checkCertificates(t.Certificates))
		}),
	)
}

// able returns the technicians of a fleet that have a certificate until a quarter, or longer.
func (f Fleet) able(certificate string, until int) []Technician {
	return list.Kept(f.Technicians, func(t Technician) bool { return t.holds(certificate, until) })
}

// Able returns the technicians that have a certificate until a quarter.
func Able(f Fleet, certificate string, until int) ([]string, api.Errno) {
	if e := check.First(CheckFleet(f), checkName(certificate), checkQuarter(until)); e != api.OK {
		return nil, e
	}
	return list.Changed(f.able(certificate, until), Technician.name), api.OK
}

// Job is work at a turbine: what it asks for, how long it takes, and when it must be over.
type Job struct {
	Name        string
	Certificate string
	Length      int
	Last        int
}

// length returns how many quarters a job takes.
func (j Job) length() int { return j.Length }

// CheckJobs returns the first error of jobs, or OK.
func CheckJobs(l []Job) api.Errno {
	once := check.Once()
	return check.First(check.Many(len(l), MaxJobs), check.Each(l, func(j Job) api.Errno {
		return check.First(checkName(j.Name), checkName(j.Certificate), checkLength(j.Length), checkQuarter(j.Last), once(j.Name))
	}))
}
