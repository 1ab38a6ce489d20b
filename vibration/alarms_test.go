package vibration_test

import (
	"math"
	"math/rand"
	"slices"
	"strings"
	"testing"

	"nacelle/api"
	"nacelle/vibration"
)

func TestP44Persist(t *testing.T) {
	for _, row := range []struct {
		l    string
		m, n int
		want string
	}{
		{"x.xx", 2, 3, "..xx"}, {"x.xx", 1, 1, "x.xx"}, {"x.xx", 1, 2, "xxxx"}, {"x.xx", 2, 2, "...x"}, {"x.xx", 3, 3, "...."}, {"x.xx", 3, 4, "...x"}, {"x.xx", 1, 1024, "xxxx"}, {"x.xx", 3, 1024, "...x"}, {"x.xx", 4, 1024, "...."}, {"x....", 1, 3, "xxx.."}, {"", 1, 1, ""}, {".", 1, 1, "."}, {"x", 1024, 1024, "."},
	} {
		got, e := vibration.Persist(entries(row.l), row.m, row.n)
		check(t, "Persist", e, api.OK)
		checkList(t, "Persist", got, entries(row.want))
	}
	got, e := vibration.Persist(slices.Repeat([]bool{true}, 1024), 1024, 1024)
	check(t, "Persist", e, api.OK)
	check(t, "the first index at which a long list persists", slices.Index(got, true), 1023)
}

func TestP44PersistErrors(t *testing.T) {
	for _, row := range []struct {
		count, m, n int
		e           api.Errno
	}{
		{1025, 0, 0, api.ErrMany}, {1024, 0, 0, api.ErrRange}, {1, 1, 0, api.ErrRange}, {1, 1, -1, api.ErrRange}, {1, 1, 1025, api.ErrRange}, {1, 0, 1, api.ErrRange}, {1, -1, 3, api.ErrRange}, {1, 3, 2, api.ErrRange}, {1, 1025, 1024, api.ErrRange},
		{0, math.MinInt, 1, api.ErrRange}, {0, math.MaxInt, 1024, api.ErrRange}, {0, 1, math.MaxInt, api.ErrRange}, {0, 1, math.MinInt, api.ErrRange}, {0, math.MaxInt, math.MaxInt, api.ErrRange},
	} {
		got, e := vibration.Persist(make([]bool, row.count), row.m, row.n)
		check(t, "Persist", e, row.e)
		checkZero(t, "Persist", got)
	}
}

// lists returns lists of entries from their marks, with a space between two lists.
func lists(marks string) [][]bool {
	var out [][]bool
	for _, l := range strings.Split(marks, " ") {
		out = append(out, entries(l))
	}
	return out
}

func TestP44Vote(t *testing.T) {
	for _, row := range []struct {
		lists string
		m     int
		want  string
	}{
		{"xx.. x.x. xxx.", 1, "xxx."}, {"xx.. x.x. xxx.", 2, "xxx."}, {"xx.. x.x. xxx.", 3, "x..."}, {"x.", 1, "x."}, {"  ", 2, ""}, {"x x x x x x x x", 8, "x"}, {"x x x x x x x .", 8, "."}, {"x x x x x x x .", 7, "x"},
	} {
		got, e := vibration.Vote(lists(row.lists), row.m)
		check(t, "Vote", e, api.OK)
		checkList(t, "Vote", got, entries(row.want))
	}
	got, e := vibration.Vote([][]bool{make([]bool, 1024), make([]bool, 1024)}, 1)
	check(t, "Vote", e, api.OK)
	checkList(t, "Vote", got, make([]bool, 1024))
}

func TestP44VoteErrors(t *testing.T) {
	long := make([]bool, 1025)
	for _, row := range []struct {
		lists [][]bool
		m     int
		e     api.Errno
	}{
		{nil, 0, api.ErrEmpty}, {[][]bool{long, nil, nil, nil, nil, nil, nil, nil, nil}, 0, api.ErrMany}, {[][]bool{{true}, nil, nil, nil, nil, nil, nil, nil, nil}, 0, api.ErrMany}, {[][]bool{long}, 0, api.ErrMany}, {[][]bool{nil, long}, 0, api.ErrMany}, {[][]bool{nil, {true}, long}, 0, api.ErrShape}, {[][]bool{{true}, nil}, 0, api.ErrShape}, {[][]bool{long[:1024], long[:1023]}, 3, api.ErrShape},
		{[][]bool{{true}}, 0, api.ErrRange}, {[][]bool{{true}}, 2, api.ErrRange}, {[][]bool{nil, nil}, 3, api.ErrRange}, {[][]bool{nil}, -1, api.ErrRange}, {[][]bool{nil}, math.MaxInt, api.ErrRange}, {[][]bool{nil}, math.MinInt, api.ErrRange},
	} {
		got, e := vibration.Vote(row.lists, row.m)
		check(t, "Vote", e, row.e)
		checkZero(t, "Vote", got)
	}
}

func TestP44Latch(t *testing.T) {
	for _, row := range []struct{ on, off, want string }{
		{"", "", ""}, {".x....", "...x..", ".xx..."}, {"x", "x", "x"}, {".", ".", "."}, {".", "x", "."}, {"x..x..", ".x...x", "x..xx."}, {"x...", ".xxx", "x..."}, {"x..", "x..", "xxx"}, {".xx.", ".xx.", ".xxx"}, {"......", ".x.x.x", "......"}, {".x....", "......", ".xxxxx"},
	} {
		got, e := vibration.Latch(entries(row.on), entries(row.off))
		check(t, "Latch", e, api.OK)
		checkList(t, "Latch", got, entries(row.want))
	}
	for _, row := range []struct {
		on, off int
		e       api.Errno
	}{{1025, 0, api.ErrMany}, {0, 1025, api.ErrMany}, {1025, 1025, api.ErrMany}, {1024, 1023, api.ErrShape}, {0, 1, api.ErrShape}, {1024, 1024, api.OK}} {
		got, e := vibration.Latch(make([]bool, row.on), make([]bool, row.off))
		check(t, "Latch", e, row.e)
		if e != api.OK {
			checkZero(t, "Latch", got)
		}
	}
}

func TestP44Groups(t *testing.T) {
	a, b, d := alarm("a", 1), alarm("b", 3), alarm("a", 9)
	for _, row := range []struct {
		l    []vibration.Alarm
		gap  int
		want [][]vibration.Alarm
	}{
		{[]vibration.Alarm{a, b, d}, 2, [][]vibration.Alarm{{a, b}, {d}}}, {[]vibration.Alarm{a, b, d}, 1, [][]vibration.Alarm{{a}, {b}, {d}}}, {[]vibration.Alarm{a, b, d}, 5, [][]vibration.Alarm{{a, b}, {d}}}, {[]vibration.Alarm{a, b, d}, 6, [][]vibration.Alarm{{a, b, d}}}, {[]vibration.Alarm{a, b, d}, 0, [][]vibration.Alarm{{a}, {b}, {d}}}, {nil, 0, nil},
		{[]vibration.Alarm{a, a, a, b, b}, 0, [][]vibration.Alarm{{a, a, a}, {b, b}}}, {[]vibration.Alarm{alarm("A", 0), alarm("a", 0), alarm("a_1", 0), alarm("z", 40000)}, 1000, [][]vibration.Alarm{{alarm("A", 0), alarm("a", 0), alarm("a_1", 0)}, {alarm("z", 40000)}}},
	} {
		got, e := vibration.Groups(row.l, row.gap)
		check(t, "Groups", e, api.OK)
		check(t, "Groups", len(got), len(row.want))
		for i, group := range got {
			checkList(t, "Groups", group, row.want[i])
		}
	}
	got, e := vibration.Groups(slices.Repeat([]vibration.Alarm{a}, 1024), 0)
	check(t, "Groups", e, api.OK)
	check(t, "Groups of one alarm", len(got) == 1 && len(got[0]) == 1024, true)
}

func TestP44GroupsErrors(t *testing.T) {
	for _, row := range []struct {
		l   []vibration.Alarm
		gap int
		e   api.Errno
	}{
		{make([]vibration.Alarm, 1025), -1, api.ErrMany}, {make([]vibration.Alarm, 1024), -1, api.ErrName}, {[]vibration.Alarm{alarm("", -1)}, -1, api.ErrName}, {[]vibration.Alarm{alarm("1a", 0)}, 0, api.ErrName}, {[]vibration.Alarm{alarm("abcdefghijklmnopqrstuvwxy", 0)}, 0, api.ErrName}, {[]vibration.Alarm{alarm("a b", 0)}, 0, api.ErrName},
		{[]vibration.Alarm{alarm("a", -1)}, -1, api.ErrRange}, {[]vibration.Alarm{alarm("a", 40001)}, -1, api.ErrRange}, {[]vibration.Alarm{alarm("a", 5), alarm("b", -1)}, -1, api.ErrRange}, {[]vibration.Alarm{alarm("a", math.MinInt)}, 0, api.ErrRange}, {[]vibration.Alarm{alarm("a", math.MaxInt)}, 0, api.ErrRange},
		{[]vibration.Alarm{alarm("a", 5), alarm("b", 4)}, -1, api.ErrOrder}, {[]vibration.Alarm{alarm("b", 5), alarm("a", 5)}, -1, api.ErrOrder}, {[]vibration.Alarm{alarm("a", 5), alarm("A", 5)}, 0, api.ErrOrder}, {[]vibration.Alarm{alarm("a_1", 5), alarm("a", 5)}, 0, api.ErrOrder}, {[]vibration.Alarm{alarm("b", 5), alarm("a", 5), alarm("", 6)}, 0, api.ErrOrder}, {[]vibration.Alarm{alarm("b", 5), alarm("", 5), alarm("a", 5)}, 0, api.ErrName},
		{nil, -1, api.ErrRange}, {nil, 1001, api.ErrRange}, {nil, math.MinInt, api.ErrRange}, {[]vibration.Alarm{alarm("a", 5)}, math.MaxInt, api.ErrRange},
	} {
		got, e := vibration.Groups(row.l, row.gap)
		check(t, "Groups", e, row.e)
		checkZero(t, "Groups", got)
	}
}

func TestP44Otherwise(t *testing.T) {
	r := rand.New(rand.NewSource(4))
	for range 300 {
		l := randomEntries(r, 30)
		n := 1 + r.Intn(8)
		m := 1 + r.Intn(n)
		persist, e := vibration.Persist(l, m, n)
		check(t, "Persist", e, api.OK)
		for i := range l {
			count := 0
			for j := i - n + 1; j <= i; j++ {
				if j >= 0 && l[j] {
					count++
				}
			}
			check(t, "Persist", persist[i], count >= m)
		}
		on, off := make([]bool, len(l)), make([]bool, len(l))
		for i := range l {
			on[i], off[i] = r.Intn(4) == 0, r.Intn(4) == 0
		}
		latch, e := vibration.Latch(on, off)
		check(t, "Latch", e, api.OK)
		for i := range l {
			before := i
			for before >= 0 && !on[before] && !off[before] {
				before--
			}
			check(t, "Latch", latch[i], before >= 0 && on[before])
		}
		vote, e := vibration.Vote([][]bool{l, on, off}, 1+m%3)
		check(t, "Vote", e, api.OK)
		for i := range l {
			votes := map[bool]int{}
			for _, x := range []bool{l[i], on[i], off[i]} {
				votes[x]++
			}
			check(t, "Vote", vote[i], votes[true] >= 1+m%3)
		}
	}
}

func TestP44GroupsOtherwise(t *testing.T) {
	r := rand.New(rand.NewSource(5))
	for range 300 {
		var l []vibration.Alarm
		quarter := 0
		for range r.Intn(20) {
			quarter += r.Intn(6)
			l = append(l, alarm("turbine", quarter))
		}
		gap := r.Intn(6)
		groups, e := vibration.Groups(l, gap)
		check(t, "Groups", e, api.OK)
		checkList(t, "the alarms of all groups", slices.Concat(groups...), l)
		for i, group := range groups {
			check(t, "a group has an alarm", len(group) > 0, true)
			for j := 1; j < len(group); j++ {
				check(t, "the gap within a group", group[j].At-group[j-1].At <= gap, true)
			}
			if i > 0 {
				before := groups[i-1]
				check(t, "the gap before a group", group[0].At-before[len(before)-1].At > gap, true)
			}
		}
	}
}
