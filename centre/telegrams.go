package centre

import (
	"iter"

	"nacelle/api"
	"nacelle/check"
	"nacelle/list"
)

const (
	mark       = "NT" // the first bytes of a frame
	zerosAt    = 12   // where the two bytes 0 begin
	sumAt      = 14   // where the check sum begins
	sumModulus = 65521
	maxSpeed   = 255
	maxState   = 3
	tooLate    = 32768 // as many lost telegrams are those of one that is late
)

// Telegram is what a turbine reports.
type Telegram struct {
	Turbine  int
	Sequence int
	Speed    int
	State    int
	Power    int
}

// CheckTelegram returns the error of a telegram, or OK.
func CheckTelegram(t Telegram) api.Errno {
	return check.First(
		checkNumber(t.Turbine), checkWord(t.Sequence), check.Range(t.Speed, 0, maxSpeed), check.Range(t.State, 0, maxState), check.Range(t.Power, 0, api.MaxNumber),
	)
}

// checkNumber returns ErrRange if the number of a turbine is not in its range.
func checkNumber(turbine int) api.Errno { return check.Range(turbine, 1, MaxWord) }

// frame returns the frame of a telegram that was checked.
func (t Telegram) frame() Frame {
	f := Frame{
		mark[0], mark[1], byte(t.Turbine >> 8), byte(t.Turbine), byte(t.Sequence >> 8), byte(t.Sequence), byte(t.Speed), byte(t.State),
		byte(t.Power >> 24), byte(t.Power >> 16), byte(t.Power >> 8), byte(t.Power),
	}
	return f.summed()
}

// Frame is the bytes of a telegram.
type Frame [Size]byte

// telegram returns what the bytes of a frame say; it need not be right.
func (f Frame) telegram() Telegram {
	return Telegram{Turbine: number(f[2:4]), Sequence: number(f[4:6]), Speed: number(f[6:7]), State: number(f[7:8]), Power: number(f[8:zerosAt])}
}

// number returns the number in bytes, the highest of which stands first.
func number(bytes []byte) int {
	n := 0
	for _, b := range bytes {
		n = n<<8 | int(b)
	}
	return n
}

// summed returns a frame with the check sum of its other bytes.
func (f Frame) summed() Frame {
	sum := 0
	for i, b := range f[:sumAt] {
		sum += (i + 1) * int(b)
	}
	sum %= sumModulus
	f[sumAt], f[sumAt+1] = byte(sum>>8), byte(sum)
	return f
}

// Encode returns the frame of a telegram.
func Encode(t Telegram) (Frame, api.Errno) {
	if e := CheckTelegram(t); e != api.OK {
		return Frame{}, e
	}
	return t.frame(), api.OK
}

// Decode returns the telegram of a frame.
func Decode(f Frame) (Telegram, api.Errno) {
	t := f.telegram()
	e := check.First(
		check.That(string(f[:len(mark)]) == mark, api.ErrForm),
		check.That(f == f.summed(), api.ErrCheck),
		check.That(number(f[zerosAt:sumAt]) == 0, api.ErrForm),
		CheckTelegram(t),
	)
	if e != api.OK {
		return Telegram{}, e
	}
	return t, api.OK
}

// first returns the telegram of the frame with which a stream begins, if it begins with one.
func first(stream []byte) (Telegram, bool) {
	if len(stream) < Size {
		return Telegram{}, false
	}
	t, e := Decode(Frame(stream[:Size]))
	return t, e == api.OK
}

// visited visits the frames of a stream, with true and their telegrams, and the bytes that are passed over, with false.
func visited(stream []byte) iter.Seq2[Telegram, bool] {
	return func(yield func(Telegram, bool) bool) {
		for at := 0; at < len(stream); {
			t, isFrame := first(stream[at:])
			if !yield(t, isFrame) {
				return
			}
			if isFrame {
				at += Size
			} else {
				at++
			}
		}
	}
}

// Frames returns the telegrams of a stream, and how many bytes were passed over.
func Frames(stream []byte) ([]Telegram, int, api.Errno) {
	if len(stream) > api.MaxLog {
		return nil, 0, api.ErrLong
	}
	var out []Telegram
	passed := 0
	for t, isFrame := range visited(stream) {
		if isFrame {
			out = append(out, t)
		} else {
			passed++
		}
	}
	return out, passed, api.OK
}

// Follow returns how many telegrams were lost between two sequence numbers.
func Follow(last, next int) (int, api.Errno) {
	lost := (next - last + MaxWord) % (MaxWord + 1)
	e := check.First(checkWord(last), checkWord(next), check.That(last != next, api.ErrTwice), check.Order(lost < tooLate))
	if e != api.OK {
		return 0, e
	}
	return lost, api.OK
}

// Missing returns how many telegrams of a turbine were lost.
func Missing(l []Telegram, turbine int) (int, api.Errno) {
	own := list.Kept(l, func(t Telegram) bool { return t.Turbine == turbine })
	e := check.First(check.Many(len(l), api.MaxEvents), check.Each(l, CheckTelegram), checkNumber(turbine), check.That(len(own) > 0, api.ErrNone))
	if e != api.OK {
		return 0, e
	}
	lost := 0
	e = check.Row(own[1:], own[0], func(before, t Telegram) api.Errno {
		between, e := Follow(before.Sequence, t.Sequence)
		lost += between
		return e
	})
	if e != api.OK {
		return 0, e
	}
	return lost, api.OK
}
