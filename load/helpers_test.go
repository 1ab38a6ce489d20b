package load_test

import (
	"fmt"
	"math"
	"math/big"
	"math/rand"
	"slices"
	"testing"

	"nacelle/api"
	"nacelle/load"
)

// The zero values of lists, which stand beside errors.
var (
	noLoads     []int
	noReversals []load.Reversal
	noCycles    []load.Cycle
	noClasses   []load.Class
)

// results returns all results of a call.
func results(r ...any) []any { return r }

// check reports results that are not the expected ones. Lists without elements are the same.
func check(t *testing.T, what string, got []any, want ...any) {
	t.Helper()
	if g, w := fmt.Sprintln(got...), fmt.Sprintln(want...); g != w {
		t.Errorf("%s: got %.200s, want %.200s", what, g, w)
	}
}

// example are the loads L of the chapter's examples, their reversals, and the residue.
func example() []int { return []int{0, 5, 5, 2, 4, -1, 3, 6} }

func turned() []load.Reversal { return reversals(0, 0, 1, 5, 3, 2, 4, 4, 5, -1, 7, 6) }

func residue() []load.Reversal { return reversals(0, 0, 1, 5, 5, -1, 7, 6) }

// reversals returns reversals: the index and the load of each one in turn.
func reversals(n ...int) []load.Reversal {
	var out []load.Reversal
	for pair := range slices.Chunk(n, 2) {
		out = append(out, load.Reversal{At: pair[0], Load: pair[1]})
	}
	return out
}

// steps returns reversals with the indices from 0 on.
func steps(loads ...int) []load.Reversal {
	var out []load.Reversal
	for at, x := range loads {
		out = append(out, load.Reversal{At: at, Load: x})
	}
	return out
}

// cycles returns cycles: From, To, Low and High of each one in turn.
func cycles(n ...int) []load.Cycle {
	var out []load.Cycle
	for c := range slices.Chunk(n, 4) {
		out = append(out, load.Cycle{From: c[0], To: c[1], Low: c[2], High: c[3]})
	}
	return out
}

// zigzag returns so many loads, low and high ones in turn.
func zigzag(count, low, high int) []int {
	out := make([]int, count)
	for i := range out {
		out[i] = []int{low, high}[i%2]
	}
	return out
}

// ramp returns so many loads whose differences grow by 1, so that no cycle is taken.
func ramp(count int) []int {
	out := make([]int, count)
	for i := range out {
		out[i] = (i + 1) / 2 * (2*(i%2) - 1)
	}
	return out
}

// greatest returns so many of the greatest cycles.
func greatest(count int) []load.Cycle {
	return slices.Repeat(cycles(0, 1, -32768, 32768), count)
}

// wrongReversals are reversals with errors.
var wrongReversals = []struct {
	l []load.Reversal
	e api.Errno
}{
	{make([]load.Reversal, 40001), api.ErrMany}, {make([]load.Reversal, 40000), api.ErrOrder},
	{reversals(-1, 0), api.ErrRange}, {reversals(40000, 0), api.ErrRange}, {reversals(0, 32769), api.ErrRange}, {reversals(0, -32769), api.ErrRange}, {reversals(math.MinInt, 0), api.ErrRange}, {reversals(0, math.MaxInt), api.ErrRange}, {reversals(math.MaxInt, math.MinInt), api.ErrRange},
	{reversals(3, 0, 3, 1), api.ErrOrder}, {reversals(3, 0, 2, 1), api.ErrOrder}, {reversals(3, 0, 2, 0), api.ErrOrder}, {reversals(3, 0, 40000, 0), api.ErrRange}, {reversals(3, 0, 3, 32769), api.ErrRange}, {reversals(0, 0, 2, 3, 1, 5), api.ErrOrder},
	{reversals(0, 1, 1, 1), api.ErrShape}, {steps(0, 2, 2), api.ErrShape}, {steps(0, 2, 3), api.ErrShape}, {steps(0, -2, -3), api.ErrShape}, {steps(0, 2, 1, 1), api.ErrShape}, {steps(0, 2, 1, 0), api.ErrShape}, {steps(0, 2, 1, 3, 4), api.ErrShape}, {steps(2, 0, 0), api.ErrShape},
	{reversals(0, 0, 1, 0, 0, 40000), api.ErrShape}, {reversals(0, 0, 1, 0, 40000, 0), api.ErrShape}, {reversals(0, 0, 40000, 0, 1, 0), api.ErrRange}, {reversals(1, 0, 0, 5, 0, 40000), api.ErrOrder},
}

// wrongCycles are cycles with errors.
var wrongCycles = []struct {
	l []load.Cycle
	e api.Errno
}{
	{make([]load.Cycle, 40001), api.ErrMany}, {make([]load.Cycle, 40000), api.ErrOrder},
	{cycles(-1, 1, 0, 1), api.ErrRange}, {cycles(40000, 1, 0, 1), api.ErrRange}, {cycles(0, -1, 0, 1), api.ErrRange}, {cycles(0, 40000, 0, 1), api.ErrRange}, {cycles(0, 1, -32769, 1), api.ErrRange}, {cycles(0, 1, 32769, 1), api.ErrRange}, {cycles(0, 1, 0, -32769), api.ErrRange}, {cycles(0, 1, 0, 32769), api.ErrRange}, {cycles(math.MinInt, math.MaxInt, math.MinInt, math.MaxInt), api.ErrRange}, {cycles(1, 0, 0, 32769), api.ErrRange},
	{cycles(1, 1, 0, 1), api.ErrOrder}, {cycles(2, 1, 0, 1), api.ErrOrder}, {cycles(0, 1, 1, 1), api.ErrOrder}, {cycles(0, 1, 1, 0), api.ErrOrder}, {cycles(0, 1, 0, 1, 0, 0, 0, 1), api.ErrOrder}, {cycles(0, 1, 0, 0, -1, 1, 0, 1), api.ErrOrder}, {cycles(0, 40000, 0, 0, 1, 0, 0, 1), api.ErrRange},
}

// wrongLoads are loads with errors.
var wrongLoads = []struct {
	l []int
	e api.Errno
}{{make([]int, 40001), api.ErrMany}, {slices.Repeat([]int{32769}, 40001), api.ErrMany}, {[]int{32769}, api.ErrRange}, {[]int{0, -32769, 0}, api.ErrRange}, {[]int{math.MinInt}, api.ErrRange}, {[]int{0, math.MaxInt}, api.ErrRange}}

// wrongLives are lives with errors: all these are ErrRange.
var wrongLives = []load.Life{{}, {Capacity: 0, Exponent: 1}, {Capacity: -1, Exponent: 1}, {Capacity: load.MaxDamage + 1, Exponent: 1}, {Capacity: 1}, {Capacity: 1, Exponent: 4}, {Capacity: 1, Exponent: -1}, {Capacity: math.MinInt, Exponent: math.MaxInt}, {Capacity: math.MaxInt, Exponent: 1}}

// randomLoads returns at most so many loads; where they are small, there are many equal ones.
func randomLoads(r *rand.Rand, most int) []int {
	reach := []int{1, 3, 10, 32768}[r.Intn(4)]
	out := make([]int, r.Intn(most+1))
	for i := range out {
		out[i] = r.Intn(2*reach+1) - reach
	}
	return out
}

// randomReversals returns the reversals of random loads, with gaps between their indices.
func randomReversals(r *rand.Rand, most int) []load.Reversal {
	out := slowReversals(steps(randomLoads(r, most)...))
	shift := 0
	for i := range out {
		shift += r.Intn(3)
		out[i].At += shift
	}
	return out
}

// slowReversals returns the reversals of points, as they are defined: first by equal loads, then by neighbours.
func slowReversals(points []load.Reversal) []load.Reversal {
	var different, out []load.Reversal
	for i, p := range points {
		if i == 0 || points[i-1].Load != p.Load {
			different = append(different, p)
		}
	}
	for i, p := range different {
		isEnd := i == 0 || i == len(different)-1
		if isEnd || (different[i-1].Load < p.Load) == (different[i+1].Load < p.Load) {
			out = append(out, p)
		}
	}
	return out
}

func distance(a, b int) int { return max(a-b, b-a) }

// slowCount takes the first pair of the whole list that is a cycle, again and again.
func slowCount(l []load.Reversal) ([]load.Cycle, []load.Reversal) {
	left := slices.Clone(l)
	var out []load.Cycle
	for i := 0; i+3 < len(left); i++ {
		middle := distance(left[i+1].Load, left[i+2].Load)
		if middle <= distance(left[i].Load, left[i+1].Load) && middle <= distance(left[i+2].Load, left[i+3].Load) {
			loads := []int{left[i+1].Load, left[i+2].Load}
			slices.Sort(loads)
			out = append(out, load.Cycle{From: left[i+1].At, To: left[i+2].At, Low: loads[0], High: loads[1]})
			left = slices.Delete(left, i+1, i+3)
			i = -1
		}
	}
	return out, left
}

// ranges returns the ranges of cycles, ascending.
func ranges(l []load.Cycle) []int {
	var out []int
	for _, c := range l {
		out = append(out, c.High-c.Low)
	}
	slices.Sort(out)
	return out
}

// changes returns the differences of successive reversals.
func changes(l []load.Reversal) []int {
	var out []int
	for i := 1; i < len(l); i++ {
		out = append(out, distance(l[i].Load, l[i-1].Load))
	}
	return out
}

// slowTotal returns the sum of the powers of numbers, times a factor.
func slowTotal(l []int, exponent, factor int64) *big.Int {
	sum := new(big.Int)
	for _, x := range l {
		sum.Add(sum, new(big.Int).Exp(big.NewInt(int64(x)), big.NewInt(exponent), nil))
	}
	return sum.Mul(sum, big.NewInt(factor))
}

// bounded returns a sum and OK, or 0 and ErrLarge.
func bounded(sum *big.Int) (int, api.Errno) {
	if sum.Cmp(big.NewInt(load.MaxDamage)) > 0 {
		return 0, api.ErrLarge
	}
	return int(sum.Int64()), api.OK
}

// slowTwice returns twice the damage of loads.
func slowTwice(l []int, exponent int) *big.Int {
	taken, left := slowCount(slowReversals(steps(l...)))
	return new(big.Int).Add(slowTotal(ranges(taken), int64(exponent), 2), slowTotal(changes(left), int64(exponent), 1))
}
