package centre_test

import (
	"math/rand"
	"slices"
	"strings"
	"testing"

	"nacelle/api"
	"nacelle/centre"
	"nacelle/market"
	"nacelle/work"
)

// noise returns so many bytes, at most, that hold no N.
func noise(r *rand.Rand, most int) []byte {
	out := make([]byte, r.Intn(most+1))
	for i := range out {
		out[i] = pick[byte](r, 0, 84, 255, byte(r.Intn(78)), byte(79+r.Intn(177)))
	}
	return out
}

func TestP106TelegramsComeBack(t *testing.T) {
	r := rand.New(rand.NewSource(6))
	for range 3000 {
		var l []centre.Telegram
		stream := noise(r, 20)
		passed := len(stream)
		for range r.Intn(5) {
			x := randomTelegram(r)
			f, e := centre.Encode(x)
			check(t, "Encode", results(e), api.OK)
			check(t, "Decode", results(centre.Decode(f)), x, api.OK)
			between := noise(r, 20)
			l, stream, passed = append(l, x), slices.Concat(stream, f[:], between), passed+len(between)
		}
		check(t, "Frames", results(centre.Frames(stream)), l, passed, api.OK)
	}
}

func TestP106ChangedFrames(t *testing.T) {
	r := rand.New(rand.NewSource(7))
	for range 200 {
		f, _ := centre.Encode(randomTelegram(r))
		for i := range f {
			for b := range 256 {
				g := f
				g[i] = byte(b)
				x, e := centre.Decode(g)
				if (e == api.OK) != (g == f) || e != api.OK && x != noTelegram {
					t.Errorf("Decode of %v with the byte %v at %v: got %v and %v", f, b, i, x, e)
				}
			}
		}
		for i := range 13 {
			g := f
			g[i], g[i+1] = g[i+1], g[i]
			_, e := centre.Decode(g)
			check(t, "an exchange", results(e == api.OK), g == f)
		}
	}
}

// registers returns the registers after each cut of a journal.
func registers(t *testing.T, l []api.Event) []centre.Register {
	t.Helper()
	var out []centre.Register
	for i := range len(l) + 1 {
		at, number, e := centre.Replay(l[:i])
		check(t, "Replay", results(number, e), 0, api.OK)
		out = append(out, at)
	}
	return out
}

func TestP106NobodyIsInside(t *testing.T) {
	r := rand.New(rand.NewSource(8))
	inside, keys := 0, 0
	for range 30 {
		for _, at := range registers(t, journal(randomJournal(r, 80)...)) {
			where := map[string]bool{}
			for _, x := range at.Turbines {
				check(t, "CheckLock", results(work.CheckLock(x.Lock)), api.OK)
				inside, keys = inside+len(x.Lock.Inside), keys+len(x.Lock.Keys)
				for _, name := range x.Lock.Inside {
					check(t, "somebody inside", results(x.Lock.Running, where[name]), false, false)
					where[name] = true
				}
				if len(x.Lock.Keys) > 0 {
					check(t, "a key that is out", results(x.Lock), secured(x.Lock.Keys, x.Lock.Inside))
				}
			}
		}
	}
	check(t, "somebody is inside often, and has a key", results(inside > 100, keys > inside), true, true)
}

func TestP106ReceivedAndLost(t *testing.T) {
	r := rand.New(rand.NewSource(9))
	for range 40 {
		lines, sequence, distance := farm(1, 1), r.Intn(65536), 0
		var l []centre.Telegram
		for i := range 40 {
			lines = append(lines, lineOf(api.Event{Kind: "telegram", Names: names("t0"), Values: []int{0, sequence % 65536, 0}}))
			l = append(l, telegram(7, sequence%65536, 0), telegram(8, 0, 0))
			at, number, e := centre.Replay(journal(lines...))
			x := at.Turbines[0]
			check(t, "received and lost", results(x.Received, x.Received+x.Lost, x.Sequence, number, e), i+1, 1+distance, sequence%65536, 0, api.OK)
			check(t, "Missing", results(centre.Missing(l, 7)), x.Lost, api.OK)
			step := 1 + r.Intn(pick(r, 1, 5, 32768))
			sequence, distance = sequence+step, distance+step
		}
	}
}

func TestP106SettledQuarters(t *testing.T) {
	r := rand.New(rand.NewSource(10))
	settlements := 0
	for range 40 {
		l := journal(randomJournal(r, 80)...)
		at, _, _ := centre.Replay(l)
		for _, e := range slowCounting(l) {
			if e.Kind != "settle" {
				continue
			}
			settlements++
			v := e.Values
			q, wrong := centre.QuarterOf(at.Meters, v[1], v[2])
			check(t, "QuarterOf", results(wrong, market.CheckQuarter(q)), api.OK, api.OK)
			books, wrong := market.Books([]market.Quarter{q}, []market.Prices{{Over: v[3], Spot: v[4], Under: v[5]}})
			isIt := func(s centre.Settlement) bool {
				return s == centre.Settlement{Quarter: v[1], Offered: books.Offered, Amount: books.Amount}
			}
			check(t, "the books of a settled quarter", results(slices.ContainsFunc(at.Settled, isIt), wrong), true, api.OK)
			for _, x := range at.Turbines {
				further := api.Event{Number: len(l) + 1, Kind: "meter", Names: names(x.Name), Values: []int{at.Day, v[1], 0, 0, 0}}
				check(t, "a further meter", results(centre.Accepts(l, further)), api.ErrOver)
			}
		}
	}
	check(t, "some quarters are settled", results(settlements > 20), true)
}

func TestP106Undo(t *testing.T) {
	r := rand.New(rand.NewSource(11))
	for range 60 {
		l := journal(randomJournal(r, 40)...)
		at := registers(t, l)
		for i, e := range l {
			undo := event(i+2, "undo")
			if e.Kind == "settle" {
				check(t, "undo of a settlement", results(centre.Accepts(l[:i+1], undo)), api.ErrRule)
			} else if e.Kind != "undo" {
				check(t, "undo", results(centre.Replay(append(l[:i+1:i+1], undo))), at[i], 0, api.OK)
			}
		}
		first := at[0]
		for i := 0; i < len(l) && l[i].Kind != "undo" && l[i].Kind != "settle"; i++ {
			all := slices.Clone(l[:i+1])
			for range i + 1 {
				all = append(all, event(len(all)+1, "undo"))
			}
			check(t, "undo of all", results(centre.Replay(all)), first, 0, api.OK)
			check(t, "undo of nothing", results(centre.Accepts(all, event(len(all)+1, "undo"))), api.ErrEmpty)
		}
	}
}

func TestP106ChangedLogs(t *testing.T) {
	r := rand.New(rand.NewSource(12))
	log := logOf(busy()...)
	for i := range len(log) {
		if log[i] == '\n' {
			continue
		}
		for _, b := range []byte{log[i] ^ 1, log[i] + 1, log[i] - 1, ' ', '#', '0', '1', 'a', 0, 255, byte(r.Intn(256))} {
			if b == log[i] || b == '\n' {
				continue
			}
			l, length, e := centre.Recover(log[:i] + string([]byte{b}) + log[i+1:])
			begin := strings.LastIndexByte(log[:i], '\n') + 1
			check(t, "Recover", results(l, length, e != api.OK), journal(busy()[:strings.Count(log[:i], "\n")]...), begin, true)
		}
	}
}

// TestP106Crash: a session has every event of the whole records of a log that is cut off anywhere, and goes on behind them.
func TestP106Crash(t *testing.T) {
	r := rand.New(rand.NewSource(13))
	for range 5 {
		lines := randomJournal(r, 40)
		log := logOf(lines...)
		for cut := range len(log) + 1 {
			whole := strings.Count(log[:cut], "\n")
			s, e := centre.Open(log[:cut])
			check(t, "Open", results(e), api.OK)
			check(t, "a session after a crash", results(s.Events(), s.Log()), journal(lines[:whole]...), log[:strings.LastIndexByte(log[:cut], '\n')+1])
			for i, line := range lines[whole:min(whole+2, len(lines))] {
				_, e := s.Do(line)
				check(t, "what is done after a crash", results(e, len(s.Events())), api.OK, whole+i+1)
			}
		}
	}
}

// TestP106Cuts: the register after any cut of a journal is that of a session that was opened with it, and went on.
func TestP106Cuts(t *testing.T) {
	r := rand.New(rand.NewSource(14))
	for range 10 {
		lines := randomJournal(r, 30)
		l := journal(lines...)
		at := registers(t, l)
		for i := range lines {
			s, e := centre.Open(logOf(lines[:i]...))
			check(t, "Open", results(e), api.OK)
			answers(t, s, at[i])
			for _, line := range lines[i:] {
				_, e := s.Do(line)
				check(t, "Do: "+line, results(e), api.OK)
			}
			answers(t, s, at[len(l)])
			check(t, "Log", results(s.Log()), logOf(lines...))
		}
	}
}
