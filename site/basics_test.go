package site_test

import (
	"math"
	"strings"
	"testing"

	"nacelle/api"
	"nacelle/site"
)

func TestP11Names(t *testing.T) {
	for _, row := range []struct {
		s  string
		ok bool
	}{
		{"a", true}, {"Z", true}, {"a_1", true}, {"azAZ09_", true}, {strings.Repeat("a", 24), true},
		{"", false}, {"1a", false}, {"_a", false}, {strings.Repeat("a", 25), false}, {"a b", false}, {"a-b", false}, {"a\n", false},
		{"\u00e4", false}, {"a\u00e4", false}, {"a\xff", false}, {"a\x00", false}, {"a\u0663", false},
		{"a@", false}, {"a[", false}, {"a`", false}, {"a{", false}, {"a/", false}, {"a:", false},
	} {
		check(t, "IsName of "+row.s, site.IsName(row.s), row.ok)
	}
}

func TestP11Draw(t *testing.T) {
	for _, row := range []struct {
		key, n int
		want   []int
	}{
		{1, 0, nil}, {1, 1, []int{0}}, {1, 2, []int{1, 0}},
		// x is 950706376 (1 modulo 3: the indices 2 and 1 are exchanged), then 129027171 (1 modulo 2: none are)
		{1, 3, []int{0, 2, 1}},
		{12345, 6, []int{4, 0, 5, 2, 3, 1}}, {2147483646, 5, []int{2, 3, 4, 0, 1}},
	} {
		l, e := site.Draw(row.key, row.n)
		check(t, "Draw", e, api.OK)
		checkList(t, "Draw", l, row.want)
	}
	for _, row := range []struct {
		key, n int
		e      api.Errno
	}{
		{1, 256, api.OK}, {2147483646, 256, api.OK}, {0, 3, api.ErrRange}, {-1, 3, api.ErrRange}, {2147483647, 3, api.ErrRange},
		{math.MaxInt, 3, api.ErrRange}, {math.MinInt, 3, api.ErrRange}, {1, -1, api.ErrRange}, {1, 257, api.ErrRange}, {1, math.MaxInt, api.ErrRange},
	} {
		l, e := site.Draw(row.key, row.n)
		check(t, "Draw", e, row.e)
		if e != api.OK {
			checkZero(t, "Draw", l)
			continue
		}
		seen := map[int]bool{}
		for _, x := range l {
			seen[x] = true
		}
		check(t, "different elements", len(seen), row.n)
		check(t, "the greatest key draws", seen[0] && seen[row.n-1], true)
	}
}

func TestP11DrawOtherwise(t *testing.T) {
	const key, n = 2147483646, 40
	var want [n]int
	for i := range want {
		want[i] = i
	}
	x := uint64(key)
	for i := uint64(n - 1); i > 0; i-- {
		x = 950706376 * x % 2147483647
		j := x % (i + 1)
		want[i], want[j] = want[j], want[i]
	}
	got, e := site.Draw(key, n)
	check(t, "Draw", e, api.OK)
	checkList(t, "Draw", got, want[:])
}

func TestP11Samples(t *testing.T) {
	for _, row := range []struct {
		x float32
		e api.Errno
	}{
		{0, api.OK}, {negativeZero, api.OK}, {0.0625, api.OK}, {-0.0625, api.OK}, {2048, api.OK}, {-2048, api.OK}, {2047.9375, api.OK}, {-1.5, api.OK},
		{0.03125, api.ErrRange}, {0.1, api.ErrRange}, {2048.0625, api.ErrRange}, {-2048.0625, api.ErrRange}, {4096, api.ErrRange},
		{math.MaxFloat32, api.ErrRange}, {-math.MaxFloat32, api.ErrRange}, {math.SmallestNonzeroFloat32, api.ErrRange}, {-math.SmallestNonzeroFloat32, api.ErrRange},
		{float32(math.NaN()), api.ErrForm}, {float32(math.Inf(1)), api.ErrForm}, {float32(math.Inf(-1)), api.ErrForm},
	} {
		if e := site.CheckSample(row.x); e != row.e {
			t.Errorf("CheckSample of %v: got %v, want %v", row.x, e, row.e)
		}
	}
	check(t, "CheckSample between two numbers", site.CheckSample(math.Nextafter32(1, 2)), api.ErrRange)
}
