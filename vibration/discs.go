package vibration

import (
	"nacelle/api"
	"nacelle/ratio"
)

// Disc is a centre and a radius.
type Disc struct {
	Centre api.Ratio
	Radius api.Ratio
}

// discs returns the discs of the masses of a chain that was checked.
func (c Chain) discs() []Disc {
	var out []Disc
	for i, centre := range c.stiffness() {
		radius := centre
		if i == 0 { // the spring to the ground is on the diagonal alone
			radius -= c.Springs[0]
		}
		out = append(out, Disc{Centre: ratio.Of(centre, c.Masses[i]), Radius: ratio.Of(radius, c.Masses[i])})
	}
	return out
}

// end returns the eighth in which the greatest number of a disc lies.
func (d Disc) end() int {
	return eighths * (d.Centre.Num*d.Radius.Den + d.Radius.Num*d.Centre.Den) / (d.Centre.Den * d.Radius.Den)
}

// reach returns the eighth in which the discs of a chain end: no mode lies in a greater one.
func (c Chain) reach() int {
	most, before := 0, Disc{}
	for _, d := range c.discs() {
		if d != before { // a disc like the one before ends where that one does
			most, before = max(most, d.end()), d
		}
	}
	return most
}

// Discs returns the discs of a chain.
func Discs(c Chain) ([]Disc, api.Errno) {
	if e := CheckChain(c); e != api.OK {
		return nil, e
	}
	return c.discs(), api.OK
}
