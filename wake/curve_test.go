package wake_test

import (
	"math"
	"math/rand"
	"strings"
	"testing"

	"nacelle/api"
	"nacelle/site"
	"nacelle/wake"
)

func TestP22CheckCurve(t *testing.T) {
	for _, row := range []struct {
		name string
		f    func(k *wake.Curve)
		e    api.Errno
	}{
		{"as it is", func(k *wake.Curve) {}, api.OK},
		{"nothing", func(k *wake.Curve) { k.Powers = nil }, api.ErrShape},
		{"one power", func(k *wake.Curve) { k.Powers = []int{0} }, api.ErrShape},
		{"one power out of its range, and no CutOut", func(k *wake.Curve) { k.Powers, k.CutOut = []int{-1}, 0 }, api.ErrShape},
		{"two powers", func(k *wake.Curve) { k.Powers = []int{0, 0} }, api.OK},
		{"51 powers", func(k *wake.Curve) { k.Powers = make([]int, 51) }, api.OK},
		{"52 powers", func(k *wake.Curve) { k.Powers = make([]int, 52) }, api.ErrShape},
		{"power 100000", func(k *wake.Curve) { k.Powers[4] = 100000 }, api.OK},
		{"power 100001", func(k *wake.Curve) { k.Powers[4] = 100001 }, api.ErrRange},
		{"power -1", func(k *wake.Curve) { k.Powers[1] = -1 }, api.ErrRange},
		{"first power -1", func(k *wake.Curve) { k.Powers[0] = -1 }, api.ErrRange},
		{"first power 100001", func(k *wake.Curve) { k.Powers[0] = 100001 }, api.ErrRange},
		{"first power 1", func(k *wake.Curve) { k.Powers[0] = 1 }, api.ErrZero},
		{"first power 1, and powers that fall", func(k *wake.Curve) { k.Powers = []int{1, 0} }, api.ErrZero},
		{"powers fall", func(k *wake.Curve) { k.Powers[3] = 99 }, api.ErrOrder},
		{"powers fall before one out of its range", func(k *wake.Curve) { k.Powers = []int{0, 2, 1, -1} }, api.ErrOrder},
		{"powers fall, and no CutOut", func(k *wake.Curve) { k.Powers[3], k.CutOut = 99, 0 }, api.ErrOrder},
		{"extreme powers", func(k *wake.Curve) { k.Powers = []int{0, math.MaxInt, math.MinInt} }, api.ErrRange},
		{"CutOut 0", func(k *wake.Curve) { k.CutOut = 0 }, api.ErrRange},
		{"CutOut 1", func(k *wake.Curve) { k.CutOut = 1 }, api.OK},
		{"CutOut 51", func(k *wake.Curve) { k.CutOut = 51 }, api.OK},
		{"CutOut 52", func(k *wake.Curve) { k.CutOut = 52 }, api.ErrRange},
		{"extreme CutOut", func(k *wake.Curve) { k.CutOut = math.MinInt }, api.ErrRange},
	} {
		k := c()
		row.f(&k)
		check(t, row.name, wake.CheckCurve(k), row.e)
		n, e := wake.Value(k, -1)
		if row.e == api.OK {
			row.e = api.ErrRange
		}
		check(t, row.name+", at no speed", e, row.e)
		checkZero(t, row.name+", at no speed", n)
	}
}

func TestP22Value(t *testing.T) {
	for _, row := range []struct{ speed, want int }{
		{0, 0}, {255, 0}, {256, 0}, {257, 100}, {511, 25500}, {512, 25600}, {513, 25800}, {640, 51200}, {767, 76600}, {768, 76800}, {1000, 76800}, {1023, 76800}, {1024, 76800}, {1025, 76800}, {13056, 76800},
	} {
		n, e := wake.Value(c(), row.speed)
		check(t, "Value", e, api.OK)
		check(t, "Value", n, row.want)
	}
	long := wake.Curve{Powers: append(make([]int, 50), 100000), CutOut: 51}
	n, _ := wake.Value(long, 12799)
	check(t, "Value before the last power", n, 25500000)
	n, _ = wake.Value(long, 13056)
	check(t, "Value at the greatest speed", n, 25600000)
	for _, speed := range []int{-1, 13057, math.MinInt, math.MaxInt} {
		n, e := wake.Value(c(), speed)
		check(t, "Value at no speed", e, api.ErrRange)
		checkZero(t, "Value at no speed", n)
	}
}

func TestP22ValueOtherwise(t *testing.T) {
	r := rand.New(rand.NewSource(2))
	for range 100 {
		k := randomCurve(r)
		before := 0
		for speed := 0; speed <= 13056; speed += 1 + r.Intn(40) {
			n, e := wake.Value(k, speed)
			check(t, "Value", e, api.OK)
			check(t, "Value", n, slowValue(k, speed))
			check(t, "values do not fall", n >= before, true)
			before = n
		}
	}
}

func TestP22Powers(t *testing.T) {
	for _, row := range []struct {
		sector, speed int
		want          []int
	}{
		{0, 4, []int{76800, 25600, 76800}}, {0, 3, []int{76800, 12800, 38400}}, {0, 5, []int{0, 0, 0}}, {0, 50, []int{0, 0, 0}}, {0, 0, []int{0, 0, 0}}, {2, 4, []int{76800, 76800, 76800}},
		{4, 4, []int{0, 76800, 76800}}, // a has 128 by b and 64 by c: the speed 1 is left, with the power 0
	} {
		l, e := wake.Powers(farm(), row.sector, row.speed)
		check(t, "Powers", e, api.OK)
		checkList(t, "Powers", l, row.want)
	}
	still := farm()
	still.Curve.CutOut = 4
	l, _ := wake.Powers(still, 0, 4)
	checkList(t, "Powers at CutOut", l, []int{0, 0, 0})
	l, _ = wake.Powers(still, 0, 3)
	checkList(t, "Powers below CutOut", l, []int{76800, 12800, 38400})
	l, e := wake.Powers(wake.Farm{Site: row(0), Wake: w(), Curve: c()}, 0, 5)
	check(t, "Powers of nothing", e, api.OK)
	checkList(t, "Powers of nothing", l, nil)
	for _, row := range []struct {
		f             wake.Farm
		sector, speed int
		e             api.Errno
	}{
		{wake.Farm{}, 8, 51, api.ErrName}, {wake.Farm{Site: s(), Wake: w()}, 8, 51, api.ErrShape}, {farm(), 8, 51, api.ErrRange}, {farm(), -1, 4, api.ErrRange}, {farm(), 0, 51, api.ErrRange}, {farm(), 0, -1, api.ErrRange}, {farm(), 0, math.MaxInt, api.ErrRange},
	} {
		l, e := wake.Powers(row.f, row.sector, row.speed)
		check(t, "Powers", e, row.e)
		checkZero(t, "Powers", l)
	}
}

func TestP22Print(t *testing.T) {
	text, e := wake.Print(c())
	check(t, "Print", e, api.OK)
	check(t, "Print", text, "5 0 0 100 300 300")
	text, e = wake.Print(wake.Curve{Powers: []int{0}, CutOut: 1})
	check(t, "Print of no curve", e, api.ErrShape)
	checkZero(t, "Print of no curve", text)
}

func TestP22Parse(t *testing.T) {
	k, e := wake.Parse("5 0 0 100 300 300")
	check(t, "Parse", e, api.OK)
	checkSame(t, "Parse", k, c())
	for _, row := range []struct {
		s string
		e api.Errno
	}{
		{"1 0 0", api.OK}, {"51 0 100000", api.OK},
		{"", api.ErrSyntax}, {" ", api.ErrSyntax}, {"5 0 0\n", api.ErrSyntax}, {" 5 0 0", api.ErrSyntax}, {"5 0 0 ", api.ErrSyntax}, {"5  0 0", api.ErrSyntax}, {"5\t0 0", api.ErrSyntax}, {"5,0,0", api.ErrSyntax},
		{"5 0 a", api.ErrSyntax}, {"5 0 -1", api.ErrSyntax}, {"5 -0 0", api.ErrSyntax}, {"+5 0 0", api.ErrSyntax}, {"05 0 0", api.ErrSyntax}, {"5 00 0", api.ErrSyntax}, {"5 0 1.0", api.ErrSyntax}, {"5 0 0x1", api.ErrSyntax}, {"5 0 1_0", api.ErrSyntax}, {"5 0 \u0663", api.ErrSyntax},
		{"5 0 1000000000", api.ErrSyntax}, {"5 0 99999999999999999999", api.ErrSyntax}, {"5 0 999999999", api.ErrRange}, {"0 0 x", api.ErrSyntax},
		{"5", api.ErrShape}, {"5 0", api.ErrShape}, {"0", api.ErrShape}, {"0 0 0", api.ErrRange}, {"52 0 0", api.ErrRange}, {"5 1 2", api.ErrZero}, {"5 0 2 1", api.ErrOrder}, {"5 0 100001", api.ErrRange},
		{"5" + strings.Repeat(" 0", 51), api.OK}, {"5" + strings.Repeat(" 0", 52), api.ErrShape},
		{"55" + strings.Repeat(" 0", 2047), api.ErrShape}, {"555" + strings.Repeat(" 0", 2047), api.ErrLong}, {strings.Repeat("x", 4096), api.ErrSyntax}, {strings.Repeat("x", 4097), api.ErrLong},
	} {
		k, e := wake.Parse(row.s)
		if e != row.e {
			t.Errorf("Parse of %q: got %v, want %v", row.s, e, row.e)
		}
		if e != api.OK {
			checkZero(t, "Parse of "+row.s, k)
		}
	}
}

func TestP22Memory(t *testing.T) {
	f := farm()
	l, _ := wake.Powers(f, 0, 5)
	l[0] = 7
	l, _ = wake.Powers(f, 0, 4)
	l[0] = 7
	checkSame(t, "the farm", f, farm())
	k, _ := wake.Parse("5 0 0 100 300 300")
	k.Powers[0] = 9
	again, _ := wake.Parse("5 0 0 100 300 300")
	checkSame(t, "Parse again", again, c())
	check(t, "a farm without a rose", wake.CheckFarm(wake.Farm{Site: site.Site{Name: "a", Least: 1}, Wake: w(), Curve: c()}), api.OK)
}
