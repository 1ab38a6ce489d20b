package market

import (
	"maps"
	"slices"

	"nacelle/api"
	"nacelle/check"
	"nacelle/list"
	"nacelle/site"
)

// Bid is a quantity at a price.
type Bid struct {
	Name     string
	Quantity int
	Price    int
}

// check returns the first error of a bid by itself, or OK.
func (b Bid) check() api.Errno {
	return check.First(check.That(site.IsName(b.Name), api.ErrName), check.Range(b.Quantity, 1, MaxEnergy), checkPrice(b.Price))
}

// quantity returns the quantity of a bid.
func (b Bid) quantity() int { return b.Quantity }

// CheckBids returns the first error of bids, or OK.
func CheckBids(l []Bid) api.Errno {
	once := check.Once()
	return check.First(check.Many(len(l), MaxBids), check.Each(l, func(b Bid) api.Errno {
		return check.First(b.check(), once(b.Name))
	}))
}

// groupsOf returns the indices of the bids of each price, in their order.
func groupsOf(l []Bid) map[int][]int {
	out := map[int][]int{}
	for i, b := range l {
		out[b.Price] = append(out[b.Price], i)
	}
	return out
}

// cleared returns what is accepted of each bid, and the clearing price.
func cleared(l []Bid, demand int) ([]int, int) {
	out, clearing, left := make([]int, len(l)), 0, demand
	groups := groupsOf(l)
	for _, price := range slices.Sorted(maps.Keys(groups)) {
		if left == 0 {
			break
		}
		group := groups[price]
		quantities := list.Changed(group, func(i int) int { return l[i].Quantity })
		for at, accepted := range curtailed(quantities, left) {
			out[group[at]] = accepted
			left -= accepted
		}
		clearing = price
	}
	return out, clearing
}

// Clear returns what is accepted of each bid, and the clearing price.
func Clear(l []Bid, demand int) ([]int, int, api.Errno) {
	offered := list.Sum(list.Changed(l, Bid.quantity))
	if e := check.First(CheckBids(l), checkTotal(demand), check.That(demand <= offered, api.ErrInfeasible)); e != api.OK {
		return nil, 0, e
	}
	accepted, price := cleared(l, demand)
	return accepted, price, api.OK
}
