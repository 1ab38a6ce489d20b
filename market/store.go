package market

import (
	"slices"

	"nacelle/api"
	"nacelle/check"
)

// Store is a capacity, a power, a level at the begin and a fee.
type Store struct {
	Capacity int
	Power    int
	Begin    int
	Fee      int
}

// CheckStore returns the error of a store, or OK.
func CheckStore(s Store) api.Errno {
	return check.First(check.Range(s.Capacity, 1, MaxStore), check.Range(s.Power, 1, MaxStore), s.checkLevel(s.Begin), checkPrice(s.Fee))
}

// checkLevel returns ErrRange if a level is not in its range.
func (s Store) checkLevel(level int) api.Errno { return check.Range(level, 0, s.Capacity) }

// checkCosts returns the first error of the prices of a store, or OK.
func checkCosts(prices []int) api.Errno { return checkDay(prices, checkPrice) }

// checkLevels returns the first error of the levels of a schedule, or OK.
func (s Store) checkLevels(levels []int) api.Errno {
	return check.Row(levels, s.Begin, func(before, level int) api.Errno {
		return check.First(s.checkLevel(level), check.That(max(level-before, before-level) <= s.Power, api.ErrRule))
	})
}

// gain returns the profit of a quarter with a price, by the levels before and behind it.
func (s Store) gain(price, before, level int) int {
	return price*(before-level) - s.Fee*max(level-before, 0)
}

// Profit returns the profit of a schedule.
func Profit(s Store, prices, levels []int) (int, api.Errno) {
	if e := check.First(CheckStore(s), checkCosts(prices), check.Shape(len(levels), len(prices)), s.checkLevels(levels)); e != api.OK {
		return 0, e
	}
	sum, before := 0, s.Begin
	for quarter, level := range levels {
		sum += s.gain(prices[quarter], before, level)
		before = level
	}
	return sum, api.OK
}

// course is the levels of all quarters that are left, and their profit.
type course struct {
	levels []int
	profit int
}

// extended returns the best course from a level on: a quarter with a price, and then one of the best courses from each level on.
// Of several levels with the same profit the least one is kept, so that the course is the first one, too.
func (s Store) extended(courses map[int]course, price, before int) course {
	least, most := max(before-s.Power, 0), min(before+s.Power, s.Capacity)
	profit := func(level int) int { return s.gain(price, before, level) + courses[level].profit }
	best := least
	for level := least + 1; level <= most; level++ {
		if profit(level) > profit(best) {
			best = level
		}
	}
	return course{levels: append([]int{best}, courses[best].levels...), profit: profit(best)}
}

// best returns the best course of all quarters, which is found from the last one on.
func (s Store) best(prices []int) course {
	courses := map[int]course{} // by the level from which they go on: the best ones
	for _, price := range slices.Backward(prices) {
		longer := map[int]course{}
		for level := range s.Capacity + 1 {
			longer[level] = s.extended(courses, price, level)
		}
		courses = longer
	}
	return courses[s.Begin]
}

// Schedule returns the best schedule, and its profit.
func Schedule(s Store, prices []int) ([]int, int, api.Errno) {
	if e := check.First(CheckStore(s), checkCosts(prices)); e != api.OK {
		return nil, 0, e
	}
	best := s.best(prices)
	return best.levels, best.profit, api.OK
}
