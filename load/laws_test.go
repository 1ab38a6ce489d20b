package load_test

import (
	"cmp"
	"math"
	"math/rand"
	"slices"
	"testing"

	"nacelle/api"
	"nacelle/load"
	"nacelle/site"
)

// counted returns the cycles and the residue of reversals.
func counted(t *testing.T, l []load.Reversal) ([]load.Cycle, []load.Reversal) {
	t.Helper()
	taken, left, e := load.Count(l)
	check(t, "Count", results(e), api.OK)
	check(t, "CheckCount", results(load.CheckCount(l, taken, left)), api.OK)
	return taken, left
}

func TestP76ReversalsAreInOneCycleOrLeft(t *testing.T) {
	r := rand.New(rand.NewSource(7))
	for range 1000 {
		l := randomReversals(r, 40)
		taken, left := counted(t, l)
		for _, c := range taken {
			loads := map[int]int{}
			for _, x := range l {
				loads[x.At] = x.Load
			}
			check(t, "the loads of a cycle", results(min(loads[c.From], loads[c.To]), max(loads[c.From], loads[c.To])), c.Low, c.High)
			left = append(left, load.Reversal{At: c.From, Load: loads[c.From]}, load.Reversal{At: c.To, Load: loads[c.To]})
		}
		slices.SortFunc(left, func(a, b load.Reversal) int { return a.At - b.At })
		check(t, "the reversals of all cycles and of the residue", results(left), l)
	}
}

func TestP76Crossings(t *testing.T) {
	r := rand.New(rand.NewSource(8))
	for range 1000 {
		l := randomReversals(r, 40)
		taken, left := counted(t, l)
		for level := -11; level <= 11; level++ {
			want, e := load.Crossings(left, level)
			check(t, "Crossings", results(e), api.OK)
			for _, c := range taken {
				if c.Low <= level && level < c.High {
					want++
				}
			}
			check(t, "the crossings of a record, its cycles and its residue", results(load.Crossings(l, level)), want, api.OK)
		}
	}
}

func TestP76Filtered(t *testing.T) {
	r := rand.New(rand.NewSource(9))
	for range 1000 {
		l := randomReversals(r, 40)
		taken, left := counted(t, l)
		for least := range 13 {
			kept, e := load.Filter(l, least)
			check(t, "Filter", results(e, load.CheckReversals(kept)), api.OK, api.OK)
			large := slices.DeleteFunc(slices.Clone(taken), func(c load.Cycle) bool { return c.High-c.Low < least })
			check(t, "the cycles and the residue of what is kept", results(load.Count(kept)), large, left, api.OK)
		}
	}
}

// unplaced returns cycles and reversals without their indices: the cycles by their loads, ascending.
func unplaced(taken []load.Cycle, left []load.Reversal) ([]load.Cycle, []load.Reversal) {
	taken, left = slices.Clone(taken), slices.Clone(left)
	for i := range taken {
		taken[i].From, taken[i].To = 0, 0
	}
	for i := range left {
		left[i].At = 0
	}
	slices.SortFunc(taken, func(a, b load.Cycle) int { return cmp.Or(a.Low-b.Low, a.High-b.High) })
	return taken, left
}

// joinedApart returns the cycles of two records and those of their residues joined, sorted by their indices, and the residue of these.
func joinedApart(t *testing.T, a, b []load.Reversal, shift int) ([]load.Cycle, []load.Reversal) {
	takenA, leftA := counted(t, a)
	takenB, leftB := counted(t, b)
	for i := range takenB {
		takenB[i].From += shift
		takenB[i].To += shift
	}
	residues, e := load.Joined(leftA, leftB, shift)
	check(t, "Joined", results(e), api.OK)
	more, left := counted(t, residues)
	taken := slices.Concat(takenA, takenB, more)
	slices.SortFunc(taken, func(a, b load.Cycle) int { return a.From - b.From })
	return taken, left
}

// TestP76JoinedRecords: where loads are equal, the same ranges may lie between other ones of these.
func TestP76JoinedRecords(t *testing.T) {
	r := rand.New(rand.NewSource(10))
	for range 2000 {
		a, b := randomReversals(r, 20), randomReversals(r, 20)
		shift := 100 + r.Intn(100)
		both, e := load.Joined(a, b, shift)
		check(t, "Joined", results(e, load.CheckReversals(both)), api.OK, api.OK)
		wantTaken, wantLeft := unplaced(joinedApart(t, a, b, shift))
		taken, left := unplaced(counted(t, both))
		check(t, "the loads of two records joined", results(taken, left), wantTaken, wantLeft)
	}
	for range 2000 {
		loads := r.Perm(40)
		cut := r.Intn(len(loads) + 1)
		a, b := slowReversals(steps(loads[:cut]...)), slowReversals(steps(loads[cut:]...))
		both, e := load.Joined(a, b, cut)
		check(t, "Joined", results(e), api.OK)
		wantTaken, wantLeft := joinedApart(t, a, b, cut)
		taken, left := counted(t, both)
		slices.SortFunc(taken, func(a, b load.Cycle) int { return a.From - b.From })
		check(t, "two records joined, with no equal loads", results(taken, left), wantTaken, wantLeft)
		check(t, "two parts of a record joined", results(both), slowReversals(steps(loads...)))
	}
}

func TestP76RecordsBackwardsAndUpsideDown(t *testing.T) {
	r := rand.New(rand.NewSource(11))
	for range 2000 {
		l := randomLoads(r, 40)
		backwards, down := slices.Clone(l), slices.Clone(l)
		slices.Reverse(backwards)
		for i, x := range l {
			down[i] = -x
		}
		first, _ := load.Reversals(l)
		taken, left := counted(t, first)
		rest := changes(left)
		slices.Sort(rest)
		for _, other := range [][]int{backwards, down} {
			turned, e := load.Reversals(other)
			check(t, "Reversals", results(e), api.OK)
			takenThere, leftThere := counted(t, turned)
			restThere := changes(leftThere)
			slices.Sort(restThere)
			check(t, "the ranges of the cycles and of the residue", results(ranges(takenThere), restThere), ranges(taken), rest)
			for exponent := 1; exponent <= 3; exponent++ {
				damage, e := load.Twice(l, exponent)
				check(t, "Twice", results(load.Twice(other, exponent)), damage, e)
			}
		}
	}
}

func TestP76ClosedResidues(t *testing.T) {
	r := rand.New(rand.NewSource(12))
	for range 2000 {
		l := randomReversals(r, 40)
		if len(l) < 2 {
			continue
		}
		taken, left := counted(t, l)
		greatest, e := load.Greatest(l)
		check(t, "Greatest of the residue", results(load.Greatest(left)), greatest, e)
		closed, e := load.Closed(left)
		check(t, "Closed", results(e, len(closed) > 0 && slices.Max(ranges(closed)) == greatest), api.OK, true)
		whole, e := load.Closed(l)
		check(t, "Closed", results(e), api.OK)
		all := slices.Concat(ranges(taken), ranges(taken), ranges(closed))
		slices.Sort(all)
		check(t, "the ranges of a closed record are those of its cycles, twice, and of its closed residue", results(ranges(whole)), all)
	}
}

func TestP76Texts(t *testing.T) {
	r := rand.New(rand.NewSource(13))
	for range 1000 {
		l := randomReversals(r, 60)
		s, e := load.Print(l)
		check(t, "Print", results(e), api.OK)
		check(t, "what was printed is parsed", results(load.Parse(s)), l, 0, api.OK)
	}
}

func TestP76DamageAddsUp(t *testing.T) {
	r := rand.New(rand.NewSource(14))
	for range 1000 {
		loads := randomLoads(r, 40)
		l, _ := load.Reversals(loads)
		taken, left := counted(t, l)
		cut := r.Intn(len(taken) + 1)
		for exponent := 1; exponent <= 3; exponent++ {
			damage, _ := load.Damage(taken, exponent)
			first, _ := load.Damage(taken[:cut], exponent)
			second, _ := load.Damage(taken[cut:], exponent)
			half, _ := load.Half(left, exponent)
			twice, e := load.Twice(loads, exponent)
			check(t, "the damage", results(damage, twice, e), first+second, 2*damage+half, api.OK)
		}
		all, _ := load.Half(l, 1)
		check(t, "each range is gone through twice", results(load.Twice(loads, 1)), all, api.OK)
	}
}

// TestP1ArgumentsStay: no function changes its arguments, or shares memory with them.
func TestP1ArgumentsStay(t *testing.T) {
	s := series([]float32{1, 2.5, 0, 0.5}, 2, 3)
	loads, _ := load.OfSeries(s)
	loads[0] = 9
	check(t, "a series", results(s), series([]float32{1, 2.5, 0, 0.5}, 2, 3))
	l, records := example(), [][]int{example(), {0, 1}}
	load.Reversals(l)
	load.Twice(l, 2)
	load.Repeats(load.Life{Capacity: 9, Exponent: 1}, l)
	load.Spend(load.Life{Capacity: 99, Exponent: 1}, records)
	check(t, "loads", results(l, records), example(), [][]int{example(), {0, 1}})
	a, b := turned(), make([]load.Reversal, len(residue()), 64)
	copy(b, residue())
	taken, left, _ := load.Count(a)
	load.CheckCount(a, taken, left)
	kept, _ := load.Filter(a, 0)
	both, _ := load.Joined(b, a, 8)
	load.Joined(b, b, 8)
	load.Closed(b)
	load.Print(a)
	for i := range both {
		both[i].Load = 77
	}
	kept[0].Load, left[0].Load, left[3].At, taken[0].From = 7, 7, 7, 7
	check(t, "reversals", results(a, b, b[:6]), turned(), residue(), append(residue(), reversals(0, 0, 0, 0)...))
	some := cycles(5, 6, 0, 4, 1, 2, 0, 3, 3, 4, 2, 4)
	load.Classes(some, 1)
	load.Damage(some, 2)
	load.Equivalent(some, 2, 3)
	check(t, "cycles", results(some), cycles(5, 6, 0, 4, 1, 2, 0, 3, 3, 4, 2, 4))
}

// TestP1AnyArguments: no function panics or runs on, whatever its arguments are.
func TestP1AnyArguments(t *testing.T) {
	numbers := []int{math.MinInt, -32768, -1, 0, 1, 2, 39999, 40000, math.MaxInt}
	for _, x := range numbers {
		for _, y := range numbers {
			for _, l := range [][]load.Reversal{nil, reversals(x, y), reversals(x, x, y, y), reversals(0, x, 1, y, 2, x), reversals(0, x, x, 0, y, 1)} {
				load.CheckReversals(l)
				load.Count(l)
				load.CheckCount(l, cycles(x, y, x, y), l)
				load.Filter(l, x)
				load.Joined(l, l, y)
				load.Joined(turned(), l, x)
				load.Closed(l)
				load.Greatest(l)
				load.Crossings(l, y)
				load.Half(l, x)
				load.Print(l)
			}
			for _, l := range [][]load.Cycle{nil, cycles(x, y, 0, 1), cycles(0, 1, x, y), cycles(y, y, x, x)} {
				load.CheckCycles(l)
				load.Classes(l, x)
				load.Damage(l, y)
				load.Equivalent(l, x, y)
				load.Equivalent(l, 1, y)
			}
			load.Reversals([]int{x, y})
			load.Twice([]int{x, y, x}, y)
			load.Repeats(load.Life{Capacity: x, Exponent: y}, []int{y, x})
			load.Spend(load.Life{Capacity: y, Exponent: 1}, [][]int{nil, {x}, {y, x}})
			load.OfSeries(site.Series{Name: "a", Start: x, Samples: []float32{float32(y)}, Gaps: []api.Span{{From: x, To: y}}})
		}
	}
}
