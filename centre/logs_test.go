package centre_test

import (
	"fmt"
	"math/rand"
	"strings"
	"testing"

	"nacelle/api"
	"nacelle/centre"
)

func TestP104Append(t *testing.T) {
	check(t, "the checksums of the example", results(slowSum(""), slowSum("1"), slowSum("11")), "0000001", "0000360", "0112009")
	log := ""
	for i, line := range append(settled(), "undo", "turbine "+fitting+" 999999999 0") {
		next, e := centre.Append(log, event(i+1, line))
		check(t, "Append", results(next, e), log+record(fmt.Sprint(i+1)+" "+line), api.OK)
		log = next
	}
	check(t, "a record", results(centre.Append("", event(1, "turbine a 1 100"))), "1 turbine a 1 100#"+slowSum("1 turbine a 1 100")+"\n", api.OK)
	check(t, "a record without names and values", results(centre.Append("", event(1, "undo"))), "1 undo#"+slowSum("1 undo")+"\n", api.OK)
}

func TestP104AppendErrors(t *testing.T) {
	log := logOf(entered()...)
	for _, row := range wrongEvents() {
		check(t, "Append", results(centre.Append(log, row.e)), "", row.want)
		check(t, "Append", results(centre.Append(log+"x", row.e)), "", api.ErrTorn)
	}
	for _, number := range []int{1, 8, 10, 1000} {
		check(t, "Append", results(centre.Append(log, event(number, "undo"))), "", api.ErrOrder)
	}
	check(t, "Append", results(centre.Append("", event(2, "undo"))), "", api.ErrOrder)
	check(t, "Append", results(centre.Append(strings.Repeat("x", 1000001), api.Event{})), "", api.ErrLong)
	check(t, "Append", results(centre.Append(log+"\n", api.Event{})), "", api.ErrSyntax)
	all := logOf(full()...)
	check(t, "Append", results(centre.Append(all, event(1001, "undo"))), "", api.ErrRange)
	check(t, "Append", results(centre.Append(all, event(1000, "undo"))), "", api.ErrOrder)
	check(t, "Append", results(centre.Append(logOf(full()[:999]...), event(1000, "undo"))), all, api.OK)
	check(t, "an event that is not accepted", results(centre.Append("", event(1, "settle 0 1 0 2 1 0"))), record("1 settle 0 1 0 2 1 0"), api.OK)
}

// rests are what may stand behind a log of eight records, and its error.
var rests = []struct {
	s string
	e api.Errno
}{
	{"x", api.ErrTorn}, {"9 undo", api.ErrTorn}, {strings.TrimSuffix(record("9 undo"), "\n"), api.ErrTorn}, {"#0000001", api.ErrTorn}, {" ", api.ErrTorn}, {"\xff", api.ErrTorn},
	{"\n", api.ErrSyntax}, {"\n" + record("9 undo"), api.ErrSyntax}, {"9 undo\n", api.ErrSyntax}, {"9 undo#\n", api.ErrSyntax}, {"9 undo#" + slowSum("9 undo")[1:] + "\n", api.ErrSyntax}, {"9 undo#0" + slowSum("9 undo") + "\n", api.ErrSyntax}, {"9 undo #" + slowSum("9 undo") + " \n", api.ErrSyntax}, {"9 undo#" + slowSum("9 undo") + "\r\n", api.ErrSyntax}, {"9 undo#-000001\n", api.ErrSyntax}, {"9 undo#00000x1\n", api.ErrSyntax}, {"9 undo" + slowSum("9 undo") + "\n", api.ErrSyntax}, {"0000001\n", api.ErrSyntax}, {"9 undo#00000:1\n", api.ErrSyntax}, {"9 undo#00000/1\n", api.ErrSyntax}, {"9 undo#0000\u0663\n", api.ErrSyntax}, {"x\n9 undo", api.ErrSyntax},
	{"9 undo#0000001\n", api.ErrCheck}, {"9 undo#" + slowSum("8 undo") + "\n", api.ErrCheck}, {"#0000000\n", api.ErrCheck}, {"x#9999999\n", api.ErrCheck}, {" " + record("9 undo"), api.ErrCheck}, {"8 undo#0000001\n" + record("9 undo"), api.ErrCheck}, {"9 undo#" + record("9 undo"), api.ErrCheck},
	{record(""), api.ErrSyntax}, {record(" "), api.ErrSyntax}, {record("9"), api.ErrSyntax}, {record("9 "), api.ErrSyntax}, {record("undo"), api.ErrSyntax}, {record("9 undo "), api.ErrSyntax}, {record(" 9 undo"), api.ErrSyntax}, {record("9  undo"), api.ErrSyntax}, {record("9 undo 1"), api.ErrSyntax}, {record("9 Undo"), api.ErrSyntax}, {record("9 undo#"), api.ErrSyntax}, {record("9 undo#" + slowSum("9 undo")), api.ErrSyntax}, {record("09 undo"), api.ErrSyntax}, {record("+9 undo"), api.ErrSyntax}, {record("-9 undo"), api.ErrSyntax}, {record("0 undo"), api.ErrSyntax}, {record("1001 undo"), api.ErrSyntax}, {record("9000000000 undo"), api.ErrSyntax}, {record("x undo"), api.ErrSyntax}, {record("9\tundo"), api.ErrSyntax},
	{record("9 turbine a 1"), api.ErrSyntax}, {record("9 turbine 1 100"), api.ErrSyntax}, {record("9 turbine  1 100"), api.ErrSyntax}, {record("9 turbine a 1 100 "), api.ErrSyntax}, {record("9 turbine a 1 100 1"), api.ErrSyntax}, {record("9 turbine a b 1 100"), api.ErrSyntax}, {record("9 turbine _ 1 100"), api.ErrSyntax}, {record("9 turbine " + long + " 1 100"), api.ErrSyntax}, {record("9 turbine a 1 1e2"), api.ErrSyntax}, {record("9 turbine a 1 -1"), api.ErrSyntax}, {record("9 turbine a 1 -0"), api.ErrSyntax}, {record("9 turbine a 1 00"), api.ErrSyntax}, {record("9 turbine a 01 100"), api.ErrSyntax}, {record("9 turbine a 1 1000000000"), api.ErrSyntax}, {record("9 turbine a 1 x"), api.ErrSyntax}, {record("9 turbine a 1 "), api.ErrSyntax}, {record("9 turbine a  1"), api.ErrSyntax}, {record("9 act a b c 1"), api.ErrSyntax}, {record("9 person a b 1"), api.ErrSyntax}, {record("9 settle a 1 2 3 4 5"), api.ErrSyntax}, {record("9 inside a"), api.ErrSyntax}, {record("\xff undo"), api.ErrSyntax},
	{record("8 undo"), api.ErrOrder}, {record("10 undo"), api.ErrOrder}, {record("1 undo"), api.ErrOrder}, {record("1000 undo") + record("9 undo"), api.ErrOrder}, {record("10 turbine a 1 0") + "\n", api.ErrOrder},
}

func TestP104Recover(t *testing.T) {
	check(t, "Recover", results(centre.Recover("")), noEvents, 0, api.OK)
	for _, lines := range [][]string{settled(), full(), {"undo"}, {"act a b 0"}, append(farm(64, 999999999), "person "+fitting+" Z_9 z 0", "settle 1 2 3 6 5 4", "undo")} {
		log := logOf(lines...)
		check(t, "Recover", results(centre.Recover(log)), journal(lines...), len(log), api.OK)
	}
	log := logOf(entered()...)
	for _, row := range rests {
		check(t, "Recover with "+row.s, results(centre.Recover(log+row.s)), journal(entered()...), len(log), row.e)
		check(t, "Append with "+row.s, results(centre.Append(log+row.s, event(9, "undo"))), "", row.e)
	}
	check(t, "Recover", results(centre.Recover(record("2 undo"))), noEvents, 0, api.ErrOrder)
	check(t, "Recover", results(centre.Recover("1 undo")), noEvents, 0, api.ErrTorn)
	all := logOf(full()...)
	check(t, "Recover", results(centre.Recover(all+record("1001 undo"))), journal(full()...), len(all), api.ErrSyntax)
	check(t, "Recover", results(centre.Recover(all+record("1000 undo"))), journal(full()...), len(all), api.ErrOrder)
}

func TestP104Long(t *testing.T) {
	log := logOf(entered()...)
	fill := strings.Repeat("x", 1000000-len(log))
	check(t, "Recover", results(centre.Recover(log+fill)), journal(entered()...), len(log), api.ErrTorn)
	check(t, "Recover", results(centre.Recover(log+fill+"x")), noEvents, 0, api.ErrLong)
	check(t, "Recover", results(centre.Recover(strings.Repeat(" ", 1000000))), noEvents, 0, api.ErrTorn)
	check(t, "Recover", results(centre.Recover(strings.Repeat("\n", 1000000))), noEvents, 0, api.ErrSyntax)
	check(t, "Recover", results(centre.Recover(strings.Repeat("\n", 1000001))), noEvents, 0, api.ErrLong)
}

// TestP104Otherwise: any log comes back, also from what its events append.
func TestP104Otherwise(t *testing.T) {
	r := rand.New(rand.NewSource(4))
	for range 100 {
		lines := randomJournal(r, r.Intn(30))
		log := ""
		for _, e := range journal(lines...) {
			next, wrong := centre.Append(log, e)
			check(t, "Append", results(wrong), api.OK)
			log = next
		}
		check(t, "the log", results(log), logOf(lines...))
		check(t, "Recover", results(centre.Recover(log)), journal(lines...), len(log), api.OK)
	}
}

// TestP104AnyLog compares with what is recovered of logs with records that are changed, torn or exchanged, also with right checksums.
func TestP104AnyLog(t *testing.T) {
	r := rand.New(rand.NewSource(16))
	found := map[api.Errno]int{}
	for range 1500 {
		var log string
		for i, line := range randomJournal(r, 1+r.Intn(5)) {
			body := []byte(fmt.Sprint(i+1+pick(r, 0, 0, 0, 0, 0, 0, 0, 0, 1, -1)) + " " + line)
			if r.Intn(8) == 0 {
				body[r.Intn(len(body))] = pick(r, []byte("0123456789 #ax_-\n")...)
			}
			next := []byte(record(string(body)))
			if r.Intn(8) == 0 {
				next[r.Intn(len(next))] = pick(r, []byte("0123456789 #ax_-\n")...)
			}
			log += string(next[:pick(r, len(next), len(next), len(next), len(next), len(next), r.Intn(len(next)+1))])
		}
		l, length, want := slowRecover(log)
		found[want]++
		check(t, "Recover of "+log, results(centre.Recover(log)), l, length, want)
		_, e := centre.Open(log)
		_, _, wrong := centre.Replay(l)
		check(t, "Open of "+log, results(e == api.OK), (want == api.OK || want == api.ErrTorn) && wrong == api.OK)
	}
	for _, e := range []api.Errno{api.OK, api.ErrTorn, api.ErrSyntax, api.ErrCheck, api.ErrOrder} {
		check(t, "each error is met", results(found[e] > 20, e), true, e)
	}
}
