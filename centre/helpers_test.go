package centre_test

import (
	"fmt"
	"math"
	"math/big"
	"math/rand"
	"regexp"
	"slices"
	"strconv"
	"strings"
	"testing"

	"nacelle/api"
	"nacelle/centre"
	"nacelle/work"
)

// The zero values of results, which stand beside errors.
var (
	noTelegram  centre.Telegram
	noTelegrams []centre.Telegram
	noFrame     centre.Frame
	noRegister  centre.Register
	noEvents    []api.Event
	noSession   *centre.Session
)

// long is a name that is just too long, and fitting one that is not.
var (
	long    = strings.Repeat("n", 25)
	fitting = strings.Repeat("n", 24)
)

// outside are numbers that are in no range.
var outside = []int{math.MinInt, -1, 1000000000, math.MaxInt}

// results returns all results of a call.
func results(r ...any) []any { return r }

// check reports results that are not the expected ones. Lists without elements are the same.
func check(t *testing.T, what string, got []any, want ...any) {
	t.Helper()
	if g, w := fmt.Sprintf("%+v", got), fmt.Sprintf("%+v", want); g != w {
		t.Errorf("%s: got %.400s, want %.400s", what, g, w)
	}
}

// pick returns a random element of a list.
func pick[T any](r *rand.Rand, l ...T) T { return l[r.Intn(len(l))] }

// telegram returns a telegram of a turbine; its speed and its state follow from its sequence number.
func telegram(turbine, sequence, power int) centre.Telegram {
	return centre.Telegram{Turbine: turbine, Sequence: sequence, Speed: sequence % 256, State: sequence % 4, Power: power}
}

// frameOf returns the frame with 14 bytes and their check sum.
func frameOf(bytes ...byte) centre.Frame {
	sum := 0
	for i, b := range bytes {
		sum += (i + 1) * int(b)
	}
	return centre.Frame(append(slices.Clone(bytes[:14]), byte(sum%65521/256), byte(sum%65521%256)))
}

// randomTelegram returns a telegram, whose numbers are often at the ends of their ranges.
func randomTelegram(r *rand.Rand) centre.Telegram {
	number := func(least, most int) int { return pick(r, least, most, least+r.Intn(most-least+1)) }
	return centre.Telegram{Turbine: number(1, 65535), Sequence: number(0, 65535), Speed: number(0, 255), State: number(0, 3), Power: number(0, 999999999)}
}

// slowFrames returns the telegrams of the frames of a stream, and how many bytes are passed over, from the definitions alone.
func slowFrames(stream []byte) ([]centre.Telegram, int) {
	var out []centre.Telegram
	passed := 0
	for len(stream) > 0 {
		t, ok := slowTelegram(stream)
		if ok {
			out, stream = append(out, t), stream[16:]
		} else {
			passed, stream = passed+1, stream[1:]
		}
	}
	return out, passed
}

// slowTelegram returns the telegram with whose frame a stream begins.
func slowTelegram(stream []byte) (centre.Telegram, bool) {
	if len(stream) < 16 || stream[0] != 'N' || stream[1] != 'T' || stream[12] != 0 || stream[13] != 0 {
		return noTelegram, false
	}
	n := func(from, to int) int { return int(new(big.Int).SetBytes(stream[from:to]).Int64()) }
	t := centre.Telegram{Turbine: n(2, 4), Sequence: n(4, 6), Speed: n(6, 7), State: n(7, 8), Power: n(8, 12)}
	sum := 0
	for i := range 14 {
		sum += (i + 1) * int(stream[i])
	}
	return t, t.Turbine > 0 && t.State <= 3 && t.Power <= 999999999 && sum%65521 == n(14, 16)
}

// shapes are how many names and values the events of each kind have.
var shapes = map[string][2]int{"turbine": {1, 2}, "telegram": {1, 3}, "act": {2, 1}, "person": {3, 1}, "meter": {1, 5}, "settle": {0, 6}, "undo": {0, 0}}

// event returns the event with a number and the words of a line.
func event(number int, line string) api.Event {
	words := strings.Split(line, " ")
	out := api.Event{Number: number, Kind: words[0]}
	for i, word := range words[1:] {
		if i < shapes[out.Kind][0] {
			out.Names = append(out.Names, word)
			continue
		}
		n, _ := strconv.Atoi(word)
		out.Values = append(out.Values, n)
	}
	return out
}

// journal returns the events of some lines.
func journal(lines ...string) []api.Event {
	var out []api.Event
	for i, line := range lines {
		out = append(out, event(i+1, line))
	}
	return out
}

// entered are the lines of the chapter's third example: bob is inside the turbine a.
func entered() []string {
	return []string{"turbine a 1 100", "act a stop 1", "act a lock 1", "act a fix 1", "act a isolate 1", "act a prove 1", "person a issue bob 1", "person a enter bob 1"}
}

// settled are the lines of the chapter's fourth example, behind which the quarter 40 is settled.
func settled() []string { return append(entered(), "meter a 2 40 60 10 5", "settle 2 40 50 30 50 80") }

// secured is the lock behind the lines of entered.
func secured(keys, inside []string) work.Lock {
	return work.Lock{Rotor: true, Yaw: true, Dead: true, Proven: true, Keys: keys, Inside: inside}
}

// names returns a list of names.
func names(l ...string) []string { return l }

// farm returns the lines by which so many turbines begin, t0, t1 and so on, with a capacity.
func farm(count, capacity int) []string {
	var out []string
	for i := range count {
		out = append(out, fmt.Sprintf("turbine t%d 0 %d", i, capacity))
	}
	return out
}

// full are the lines of as many events as there may be: undone ones do not count.
func full() []string { return slices.Repeat([]string{"turbine a 7 1", "undo"}, 500) }

// slowSum returns the checksum of a string: the remainder of a number whose digits to the base 311 are 1 and the bytes.
func slowSum(s string) string {
	x := big.NewInt(1)
	for _, b := range []byte(s) {
		x.Add(x.Mul(x, big.NewInt(311)), big.NewInt(int64(b)))
	}
	return fmt.Sprintf("%07d", x.Mod(x, big.NewInt(9999901)))
}

// record returns the record with a body.
func record(body string) string { return body + "#" + slowSum(body) + "\n" }

// logOf returns the log of the events of some lines.
func logOf(lines ...string) string {
	out := ""
	for i, line := range lines {
		out += record(strconv.Itoa(i+1) + " " + line)
	}
	return out
}

// lineOf returns the line of an event.
func lineOf(e api.Event) string {
	out := append([]string{e.Kind}, e.Names...)
	for _, n := range e.Values {
		out = append(out, strconv.Itoa(n))
	}
	return strings.Join(out, " ")
}

// isName are the strings that are names.
var isName = regexp.MustCompile(`^[A-Za-z][A-Za-z0-9_]{0,23}$`).MatchString

// slowCheckEvent returns the first error of an event by itself.
func slowCheckEvent(e api.Event) api.Errno {
	shape, isKind := shapes[e.Kind]
	isWrong := func(n int) bool { return n < 0 || n > 999999999 }
	switch {
	case e.Number < 1 || e.Number > 1000:
		return api.ErrRange
	case !isKind:
		return api.ErrKind
	case len(e.Names) != shape[0] || len(e.Values) != shape[1]:
		return api.ErrShape
	case slices.ContainsFunc(e.Names, func(s string) bool { return !isName(s) }):
		return api.ErrName
	case slices.ContainsFunc(e.Values, isWrong):
		return api.ErrRange
	case e.Text != "":
		return api.ErrForm
	}
	return api.OK
}

// isForm are the lines that have the form of an event of the console, isQuestion those that have the form of a question.
var (
	isForm     = regexp.MustCompile(`^(turbine [^ ]+` + integers(2) + `|telegram [^ ]+` + integers(3) + `|act [^ ]+ [^ ]+` + integers(1) + `|person [^ ]+ [^ ]+ [^ ]+` + integers(1) + `|meter [^ ]+` + integers(5) + `|settle` + integers(6) + `|undo)$`).MatchString
	isQuestion = regexp.MustCompile(`^((inside|keys|lost|energy) [^ ]+|running|open|amount)$`).MatchString
)

// integers returns the expression of so many integers.
func integers(count int) string { return fmt.Sprintf(`( (0|[1-9][0-9]{0,8})){%d}`, count) }

// slowDo returns the error of a line behind some events, from the definitions alone.
func slowDo(l []api.Event, line string) api.Errno {
	word, _, _ := strings.Cut(line, " ")
	_, isKind := shapes[word]
	isAsked := slices.Contains(names("inside", "keys", "lost", "energy", "running", "open", "amount"), word)
	isThere := func(x centre.Turbine) bool { return strings.HasSuffix(line, " "+x.Name) }
	switch {
	case line == "" || isKind && !isForm(line) || isAsked && !isQuestion(line):
		return api.ErrSyntax
	case isAsked && strings.Contains(line, " ") && !slices.ContainsFunc(slowRegister(slowCounting(l)).Turbines, isThere):
		return api.ErrUnknown
	case isAsked:
		return api.OK
	case !isKind:
		return api.ErrKind
	}
	e := event(len(l)+1, line)
	if wrong := slowCheckEvent(e); wrong != api.OK {
		return wrong
	}
	return slowError(slowCounting(l), e)
}

// slowRecover returns the events of the longest prefix that is a log, its length, and the error of the rest.
func slowRecover(log string) ([]api.Event, int, api.Errno) {
	var out []api.Event
	length := 0
	for length < len(log) {
		line, _, isWhole := strings.Cut(log[length:], "\n")
		if !isWhole {
			return out, length, api.ErrTorn
		}
		at := strings.LastIndex(line, "#")
		if at != len(line)-8 || strings.Trim(line[at+1:], "0123456789") != "" {
			return out, length, api.ErrSyntax
		}
		if line[at+1:] != slowSum(line[:at]) {
			return out, length, api.ErrCheck
		}
		number, form, _ := strings.Cut(line[:at], " ")
		n, _ := strconv.Atoi(number)
		if strconv.Itoa(n) != number || !isForm(form) || slowCheckEvent(event(n, form)) != api.OK {
			return out, length, api.ErrSyntax
		}
		if n != len(out)+1 {
			return out, length, api.ErrOrder
		}
		out, length = append(out, event(n, form)), length+len(line)+1
	}
	return out, length, api.OK
}

// slowCounting returns those of the events that count after all of them.
func slowCounting(l []api.Event) []api.Event {
	var out []api.Event
	for _, e := range l {
		if e.Kind == "undo" {
			out = out[:len(out)-1]
		} else {
			out = append(slices.Clone(out), e)
		}
	}
	return out
}

// slowTurbine returns a turbine by all events that count, among them the one by which it is new.
func slowTurbine(l []api.Event, begin api.Event) centre.Turbine {
	out := centre.Turbine{Name: begin.Names[0], Capacity: begin.Values[1]}
	var acts []work.Act
	for _, e := range l {
		switch {
		case len(e.Names) == 0 || e.Names[0] != out.Name:
		case e.Kind == "telegram":
			for at := out.Sequence + 1; out.Received > 0 && at%65536 != e.Values[1]; at++ {
				out.Lost++
			}
			out.Received, out.Sequence, out.Power = out.Received+1, e.Values[1], e.Values[2]
		case e.Kind == "act" || e.Kind == "person":
			acts = append(acts, work.Act{Kind: e.Names[1], Name: strings.Join(e.Names[2:], "")})
		}
	}
	out.Lock, _, _ = work.Replay(acts)
	return out
}

// slowSettlement returns the settlement of a quarter by all events that count.
func slowSettlement(l []api.Event, settle api.Event) centre.Settlement {
	v := settle.Values
	out := centre.Settlement{Quarter: v[1], Offered: v[2], Amount: v[2] * v[4]}
	deviation := -v[2]
	for _, e := range l {
		if e.Kind == "meter" && e.Values[1] == v[1] {
			deviation += e.Values[2] - e.Values[4]
		}
	}
	if deviation > 0 {
		out.Amount += deviation * v[3]
	} else {
		out.Amount += deviation * v[5]
	}
	return out
}

// slowRegister returns the register after events that all count.
func slowRegister(l []api.Event) centre.Register {
	var out centre.Register
	for _, e := range l {
		v := e.Values
		out.Day = v[0]
		switch e.Kind {
		case "turbine":
			out.Turbines = append(out.Turbines, slowTurbine(l, e))
		case "meter":
			out.Meters = append(out.Meters, centre.Meter{Turbine: e.Names[0], Quarter: v[1], Available: v[2], Curtailed: v[3], Lost: v[4]})
		case "settle":
			out.Settled = append(out.Settled, slowSettlement(l, e))
		}
	}
	return out
}

// slowError returns the error with which an event with the right number is not accepted after some that all count.
func slowError(l []api.Event, e api.Event) api.Errno {
	r := slowRegister(l)
	i := slices.IndexFunc(r.Turbines, func(t centre.Turbine) bool { return t.Name == append(e.Names, "")[0] })
	switch {
	case e.Kind == "undo" && len(l) == 0:
		return api.ErrEmpty
	case e.Kind == "undo" && l[len(l)-1].Kind == "settle":
		return api.ErrRule
	case e.Kind == "undo":
		return api.OK
	case e.Values[0] < r.Day:
		return api.ErrState
	case e.Kind == "turbine" && i >= 0:
		return api.ErrTwice
	case e.Kind == "turbine" && (e.Values[1] < 1 || e.Values[1] > 100000):
		return api.ErrRange
	case e.Kind == "turbine" && len(r.Turbines) >= 64:
		return api.ErrMany
	case e.Kind == "turbine":
		return api.OK
	case e.Kind == "settle":
		return slowSettleError(r, e.Values)
	case i < 0:
		return api.ErrUnknown
	case e.Kind == "telegram":
		return slowTelegramError(r.Turbines[i], e.Values)
	case e.Kind == "meter":
		return slowMeterError(r, r.Turbines[i], e.Values)
	}
	return slowActError(r, r.Turbines[i], e)
}

func slowSettleError(r centre.Register, v []int) api.Errno {
	isMetered := slices.ContainsFunc(r.Meters, func(m centre.Meter) bool { return m.Quarter == v[1] })
	switch {
	case v[1] > 40000 || v[2] > 6400000 || v[3] > 10000 || v[4] > 10000 || v[5] > 10000:
		return api.ErrRange
	case v[3] > v[4] || v[4] > v[5]:
		return api.ErrOrder
	case slices.ContainsFunc(r.Settled, func(s centre.Settlement) bool { return s.Quarter == v[1] }):
		return api.ErrOver
	case !isMetered:
		return api.ErrNone
	}
	return api.OK
}

func slowTelegramError(t centre.Turbine, v []int) api.Errno {
	distance := (v[1] - t.Sequence + 65536) % 65536
	switch {
	case v[1] > 65535:
		return api.ErrRange
	case v[2] > t.Capacity:
		return api.ErrLarge
	case v[2] > 0 && !t.Lock.Running:
		return api.ErrState
	case t.Received > 0 && distance == 0:
		return api.ErrTwice
	case t.Received > 0 && distance > 32768:
		return api.ErrOrder
	}
	return api.OK
}

func slowMeterError(r centre.Register, t centre.Turbine, v []int) api.Errno {
	switch {
	case v[1] > 40000:
		return api.ErrRange
	case v[2] > t.Capacity:
		return api.ErrLarge
	case v[3]+v[4] > v[2]:
		return api.ErrConflict
	case slices.ContainsFunc(r.Settled, func(s centre.Settlement) bool { return s.Quarter == v[1] }):
		return api.ErrOver
	case slices.ContainsFunc(r.Meters, func(m centre.Meter) bool { return m.Quarter == v[1] && m.Turbine == t.Name }):
		return api.ErrTwice
	}
	return api.OK
}

func slowActError(r centre.Register, t centre.Turbine, e api.Event) api.Errno {
	a := work.Act{Kind: e.Names[1], Name: strings.Join(e.Names[2:], "")}
	isNamed := slices.Contains(names("enter", "issue", "leave", "return"), a.Kind)
	rule, _ := work.Allowed(t.Lock, a)
	switch {
	case !slices.Contains(work.Kinds(), a.Kind) || isNamed != (e.Kind == "person"):
		return api.ErrKind
	case rule != 0:
		return api.ErrRule
	case a.Kind == "enter" && slices.ContainsFunc(r.Turbines, func(t centre.Turbine) bool { return slices.Contains(t.Lock.Inside, a.Name) }):
		return api.ErrConflict
	}
	return api.OK
}

// randomAct returns the line of an act at a turbine, mostly of one that is permitted, and often of one that leads to keys.
func randomAct(r *rand.Rand, t centre.Turbine, day int) string {
	person := pick(r, "ann", "bob", "eve")
	kinds, _ := work.Acts(t.Lock, person)
	kind := pick(r, append(kinds, pick(r, work.Kinds()...))...)
	if kind == "start" || kind == "unlock" || kind == "free" || kind == "energize" {
		kind = pick(r, append(kinds, kind)...)
	}
	if slices.Contains(names("enter", "issue", "leave", "return"), kind) != (r.Intn(20) == 0) {
		return fmt.Sprintf("person %s %s %s %d", t.Name, kind, person, day)
	}
	return fmt.Sprintf("act %s %s %d", t.Name, kind, day)
}

// randomLine returns the line of an event that is accepted often after a register.
func randomLine(r *rand.Rand, at centre.Register) string {
	day := max(at.Day+pick(r, 0, 0, 0, 0, 0, 0, 1, 2, 3, -1), 0)
	if len(at.Turbines) == 0 && r.Intn(5) == 0 {
		return pick(r, "undo", "act a stop 0")
	}
	if len(at.Turbines) == 0 || r.Intn(15) == 0 {
		return fmt.Sprintf("turbine %s %d %d", pick(r, "a", "b", "c", "d"), day, pick(r, 100, 50, 100000, 1, 0, 100001))
	}
	t := pick(r, at.Turbines...)
	if r.Intn(30) == 0 {
		t.Name = pick(r, "a", "b", "x")
	}
	switch r.Intn(10) {
	case 0:
		return "undo"
	case 1:
		power := pick(r, 0, 0, 1, t.Capacity, t.Capacity+1)
		sequence := pick(r, (t.Sequence+1+r.Intn(5))%65536, (t.Sequence+1)%65536, (t.Sequence+32768)%65536, (t.Sequence+32769)%65536, t.Sequence, 65535, 65536)
		return fmt.Sprintf("telegram %s %d %d %d", t.Name, day, sequence, power)
	case 2, 3:
		available := r.Intn(min(t.Capacity, 200) + 1)
		curtailed, lost := r.Intn(available/2+1), r.Intn(available/2+1)
		return fmt.Sprintf("meter %s %d %d %d %d %d", t.Name, day, pick(r, r.Intn(6), 40000, 40001), available+pick(r, 0, 0, 0, 0, 0, t.Capacity), curtailed, lost+pick(r, 0, 0, 0, 0, available))
	case 4:
		over, spot, under := r.Intn(20), 10+r.Intn(30), 30+r.Intn(20)
		return fmt.Sprintf("settle %d %d %d %d %d %d", day, pick(r, r.Intn(6), 40000, 40001), pick(r, r.Intn(300), 6400000, 6400001), over, spot, pick(r, under, under, 10001))
	}
	return randomAct(r, t, day)
}

// randomJournal returns the lines of so many events, each of which is accepted after those before it.
func randomJournal(r *rand.Rand, count int) []string {
	var out []string
	var counting []api.Event
	for len(out) < count {
		line := randomLine(r, slowRegister(counting))
		e := event(len(out)+1, line)
		if slowError(counting, e) != api.OK {
			continue
		}
		out, counting = append(out, line), slowCounting(append(slices.Clone(counting), e))
	}
	return out
}
