package vibration_test

import (
	"math/big"
	"math/rand"
	"reflect"
	"slices"
	"testing"

	"nacelle/api"
	"nacelle/vibration"
)

// check reports a result that is not the expected one.
func check[T comparable](t *testing.T, what string, got, want T) {
	t.Helper()
	if got != want {
		t.Errorf("%s: got %v, want %v", what, got, want)
	}
}

// checkList reports a list that is not the expected one; empty lists are equal.
func checkList[T comparable](t *testing.T, what string, got, want []T) {
	t.Helper()
	if !slices.Equal(got, want) {
		t.Errorf("%s: got %v, want %v", what, got, want)
	}
}

// checkZero reports a result beside an error that is not the zero value.
func checkZero(t *testing.T, what string, results ...any) {
	t.Helper()
	for _, r := range results {
		v := reflect.ValueOf(r)
		if v.Kind() == reflect.Slice && v.Len() == 0 {
			continue
		}
		if !v.IsZero() {
			t.Errorf("%s: got %v beside an error", what, r)
		}
	}
}

// checkChain reports a chain that is not the expected one.
func checkChain(t *testing.T, what string, got, want vibration.Chain) {
	t.Helper()
	checkList(t, what+": masses", got.Masses, want.Masses)
	checkList(t, what+": springs", got.Springs, want.Springs)
}

// chain returns a chain of masses, each one followed by its spring.
func chain(numbers ...int) vibration.Chain {
	var out vibration.Chain
	for i := 0; i < len(numbers); i += 2 {
		out.Masses = append(out.Masses, numbers[i])
		out.Springs = append(out.Springs, numbers[i+1])
	}
	return out
}

// c is the chain of the chapter's examples.
func c() vibration.Chain { return chain(1, 2, 1, 2) }

// heavy is the chain with the lowest modes, stiff the one with the highest ones.
func heavy() vibration.Chain { return chain(5, 1, 5, 1, 5, 1, 5, 1, 5, 1) }

func stiff() vibration.Chain { return chain(1, 20, 1, 20, 1, 20, 1, 20, 1, 20) }

func ratio(n, d int) api.Ratio { return api.Ratio{Num: n, Den: d} }

// randomChain returns a chain of at most so many masses, often with extreme numbers.
func randomChain(r *rand.Rand, masses int) vibration.Chain {
	number := func(most int) int {
		switch r.Intn(4) {
		case 0:
			return 1
		case 1:
			return most
		}
		return 1 + r.Intn(most)
	}
	var out vibration.Chain
	for range 1 + r.Intn(masses) {
		out.Masses = append(out.Masses, number(5))
		out.Springs = append(out.Springs, number(20))
	}
	return out
}

// randomOrders returns from 1 to 8 different orders, ascending.
func randomOrders(r *rand.Rand) []int {
	var out []int
	for _, i := range r.Perm(12)[:1+r.Intn(8)] {
		out = append(out, i+1)
	}
	slices.Sort(out)
	return out
}

// randomSamples returns so many samples.
func randomSamples(r *rand.Rand, n int) []float32 {
	out := make([]float32, n)
	for i := range out {
		switch r.Intn(4) {
		case 0:
			out[i] = float32(4096*r.Intn(2) - 2048)
		case 1:
			out[i] = float32(r.Intn(3) - 1)
		default:
			out[i] = float32(r.Intn(65537)-32768) / 16
		}
	}
	return out
}

func randomBlock(r *rand.Rand) vibration.Block { return vibration.Block(randomSamples(r, 4)) }

// randomEntries returns a list of at most so many entries.
func randomEntries(r *rand.Rand, most int) []bool {
	out := make([]bool, r.Intn(most+1))
	for i := range out {
		out[i] = r.Intn(2) == 0
	}
	return out
}

// gauss is an integer with an imaginary part.
type gauss [2]int

func (a gauss) times(b gauss) gauss {
	return gauss{a[0]*b[0] - a[1]*b[1], a[0]*b[1] + a[1]*b[0]}
}

// slowMatrix returns 8 K - n M, with the dampers on its diagonal, element by element from the definitions.
func slowMatrix(c vibration.Chain, dampers []int, at int) [][]gauss {
	n := len(c.Masses)
	out := make([][]gauss, n)
	for i := range out {
		out[i] = make([]gauss, n)
		out[i][i][0] = 8*c.Springs[i] - at*c.Masses[i]
		if i+1 < n {
			out[i][i][0] += 8 * c.Springs[i+1]
		}
		if dampers != nil {
			out[i][i][1] = 8 * dampers[i]
		}
		if i > 0 {
			out[i][i-1][0], out[i-1][i][0] = -8*c.Springs[i], -8*c.Springs[i]
		}
	}
	return out
}

// slowDeterminant expands a determinant along its first row.
func slowDeterminant(m [][]gauss) gauss {
	if len(m) == 0 {
		return gauss{1, 0}
	}
	var out gauss
	sign := 1
	for j, x := range m[0] {
		var minor [][]gauss
		for _, row := range m[1:] {
			minor = append(minor, slices.Concat(row[:j], row[j+1:]))
		}
		term := x.times(slowDeterminant(minor))
		out = gauss{out[0] + sign*term[0], out[1] + sign*term[1]}
		sign = -sign
	}
	return out
}

// slowCount returns how many modes are below a value, by Descartes' rule: all numbers at which the polynomial is 0 are real, so that
// it has as many of them above a value as there are changes of sign in its coefficients around that value.
func slowCount(c vibration.Chain, at int) int {
	coefficients, _ := vibration.Polynomial(c)
	shifted := make([]*big.Int, len(coefficients)) // of the polynomial for eighths, behind the value
	for i := range shifted {
		shifted[i] = new(big.Int)
	}
	degree := len(coefficients) - 1
	for power, x := range coefficients {
		scaled := new(big.Int).Mul(big.NewInt(int64(x)), new(big.Int).Exp(big.NewInt(8), big.NewInt(int64(degree-power)), nil))
		for i := range power + 1 {
			term := new(big.Int).Binomial(int64(power), int64(i))
			term.Mul(term, new(big.Int).Exp(big.NewInt(int64(at)), big.NewInt(int64(power-i)), nil))
			shifted[i].Add(shifted[i], term.Mul(term, scaled))
		}
	}
	changes, before := 0, 0
	for _, x := range shifted {
		if x.Sign() != 0 && x.Sign() == -before {
			changes++
		}
		if x.Sign() != 0 {
			before = x.Sign()
		}
	}
	below := degree - changes
	if shifted[0].Sign() == 0 {
		below--
	}
	return below
}

// slowForbidden reports whether a speed is forbidden, by the modes between both ends.
func slowForbidden(c vibration.Chain, orders []int, guard, speed int) bool {
	for _, order := range orders {
		n := order * speed * order * speed
		if slowCount(c, n-guard) < slowCount(c, n+guard+1) {
			return true
		}
	}
	return false
}

// slowOrders returns the orders of a block, with powers of -i by repeated multiplication.
func slowOrders(b vibration.Block) [4]complex128 {
	var out [4]complex128
	for k := range 4 {
		for n, x := range b {
			term := complex(float64(x), 0)
			for range k * n {
				term *= -1i
			}
			out[k] += term
		}
	}
	return out
}

// alarm returns an alarm.
func alarm(name string, at int) vibration.Alarm { return vibration.Alarm{Name: name, At: at} }

// entries returns a list of what is true: an x for each entry that is.
func entries(marks string) []bool {
	var out []bool
	for _, mark := range marks {
		out = append(out, mark == 'x')
	}
	return out
}
