package centre_test

import (
	"bytes"
	"math"
	"math/rand"
	"slices"
	"testing"

	"nacelle/api"
	"nacelle/centre"
)

// usual is the telegram of the chapter's first example, framed is its frame.
func usual() centre.Telegram {
	return centre.Telegram{Turbine: 1, Sequence: 2, Speed: 3, State: 1, Power: 5}
}

func framed() centre.Frame {
	return centre.Frame{78, 84, 0, 1, 0, 2, 3, 1, 0, 0, 0, 5, 0, 0, 1, 95}
}

// greatest is the telegram with the greatest numbers.
func greatest() centre.Telegram {
	return centre.Telegram{Turbine: 65535, Sequence: 65535, Speed: 255, State: 3, Power: 999999999}
}

// wrongTelegrams are telegrams with a number that is not in its range.
func wrongTelegrams() []centre.Telegram {
	var out []centre.Telegram
	for _, change := range []func(*centre.Telegram, int){
		func(t *centre.Telegram, n int) { t.Turbine = n }, func(t *centre.Telegram, n int) { t.Sequence = n }, func(t *centre.Telegram, n int) { t.Speed = n }, func(t *centre.Telegram, n int) { t.State = n }, func(t *centre.Telegram, n int) { t.Power = n },
	} {
		for _, n := range outside {
			t := usual()
			change(&t, n)
			out = append(out, t)
		}
	}
	return append(out, centre.Telegram{}, centre.Telegram{Turbine: 65536}, centre.Telegram{Turbine: 1, Sequence: 65536}, centre.Telegram{Turbine: 1, Speed: 256}, centre.Telegram{Turbine: 1, State: 4})
}

func TestP101CheckTelegram(t *testing.T) {
	for _, x := range []centre.Telegram{usual(), greatest(), {Turbine: 1}} {
		check(t, "CheckTelegram", results(centre.CheckTelegram(x)), api.OK)
	}
	for _, x := range wrongTelegrams() {
		check(t, "CheckTelegram", results(centre.CheckTelegram(x), x), api.ErrRange, x)
	}
}

func TestP101Encode(t *testing.T) {
	for _, row := range []struct {
		t    centre.Telegram
		want centre.Frame
	}{
		{usual(), framed()}, {centre.Telegram{Turbine: 1}, centre.Frame{78, 84, 0, 1, 12: 0, 14: 0, 15: 250}}, {greatest(), centre.Frame{78, 84, 255, 255, 255, 255, 255, 3, 0x3b, 0x9a, 0xc9, 0xff, 0, 0, 54, 163}},
		{centre.Telegram{Turbine: 258, Sequence: 772, Speed: 5, State: 2, Power: 16909060}, frameOf(78, 84, 1, 2, 3, 4, 5, 2, 1, 2, 3, 4, 0, 0)},
	} {
		check(t, "Encode", results(centre.Encode(row.t)), row.want, api.OK)
		check(t, "Decode", results(centre.Decode(row.want)), row.t, api.OK)
	}
	for _, x := range wrongTelegrams() {
		check(t, "Encode", results(centre.Encode(x)), noFrame, api.ErrRange)
	}
}

func TestP101DecodeErrors(t *testing.T) {
	torn, twisted := framed(), framed()
	torn[15]++
	twisted[14], twisted[15] = twisted[15], twisted[14]
	both := frameOf(78, 85, 0, 1, 0, 2, 3, 1, 0, 0, 0, 5, 0, 0)
	both[15]++
	late := frameOf(78, 84, 0, 1, 0, 2, 3, 1, 0, 0, 0, 5, 1, 0)
	late[14]++
	for _, row := range []struct {
		f centre.Frame
		e api.Errno
	}{
		{centre.Frame{}, api.ErrForm}, {frameOf(79, 84, 0, 1, 0, 2, 3, 1, 0, 0, 0, 5, 0, 0), api.ErrForm}, {frameOf(78, 85, 0, 1, 0, 2, 3, 1, 0, 0, 0, 5, 0, 0), api.ErrForm}, {frameOf(84, 78, 0, 0, 0, 2, 3, 1, 0, 0, 0, 5, 0, 0), api.ErrForm}, {frameOf(110, 116, 0, 1, 0, 2, 3, 1, 0, 0, 0, 5, 0, 0), api.ErrForm}, {both, api.ErrForm},
		{torn, api.ErrCheck}, {twisted, api.ErrCheck}, {late, api.ErrCheck}, {centre.Frame{78, 84}, api.ErrCheck}, {centre.Frame{78, 84, 0, 0, 0, 0, 0, 9, 0, 0, 0, 0, 9, 9, 255, 255}, api.ErrCheck},
		{frameOf(78, 84, 0, 1, 0, 2, 3, 1, 0, 0, 0, 5, 1, 0), api.ErrForm}, {frameOf(78, 84, 0, 1, 0, 2, 3, 1, 0, 0, 0, 5, 0, 1), api.ErrForm}, {frameOf(78, 84, 0, 0, 0, 2, 3, 4, 255, 0, 0, 5, 0, 255), api.ErrForm},
		{frameOf(78, 84, 0, 0, 0, 2, 3, 1, 0, 0, 0, 5, 0, 0), api.ErrRange}, {frameOf(78, 84, 0, 1, 0, 2, 3, 4, 0, 0, 0, 5, 0, 0), api.ErrRange}, {frameOf(78, 84, 0, 1, 0, 2, 3, 255, 0, 0, 0, 5, 0, 0), api.ErrRange}, {frameOf(78, 84, 0, 1, 0, 2, 3, 1, 0x3b, 0x9a, 0xca, 0, 0, 0), api.ErrRange}, {frameOf(78, 84, 0, 1, 0, 2, 3, 1, 255, 255, 255, 255, 0, 0), api.ErrRange},
	} {
		check(t, "Decode", results(centre.Decode(row.f)), noTelegram, row.e)
	}
}

func TestP101Frames(t *testing.T) {
	f := framed()
	whole, torn := f[:], f[:15]
	other, _ := centre.Encode(greatest())
	broken := framed()
	broken[15]++
	inner, _ := centre.Encode(centre.Telegram{Turbine: 78*256 + 84, Sequence: 78*256 + 84, Speed: 78, Power: 84})
	for _, row := range []struct {
		parts  [][]byte
		want   []centre.Telegram
		passed int
	}{
		{nil, nil, 0}, {[][]byte{whole}, []centre.Telegram{usual()}, 0}, {[][]byte{torn}, nil, 15}, {[][]byte{whole, torn}, []centre.Telegram{usual()}, 15}, {[][]byte{torn, whole}, []centre.Telegram{usual()}, 15}, {[][]byte{whole[1:], whole}, []centre.Telegram{usual()}, 15},
		{[][]byte{whole, other[:], whole}, []centre.Telegram{usual(), greatest(), usual()}, 0}, {[][]byte{{0, 1}, whole, {78}, other[:], {78, 84}}, []centre.Telegram{usual(), greatest()}, 5}, {[][]byte{{78, 84, 78}, whole}, []centre.Telegram{usual()}, 3}, {[][]byte{broken[:], whole}, []centre.Telegram{usual()}, 16}, {[][]byte{broken[:14], whole}, []centre.Telegram{usual()}, 14},
		{[][]byte{inner[:]}, []centre.Telegram{{Turbine: 20052, Sequence: 20052, Speed: 78, Power: 84}}, 0}, {[][]byte{inner[:2], inner[:]}, []centre.Telegram{{Turbine: 20052, Sequence: 20052, Speed: 78, Power: 84}}, 2}, {[][]byte{bytes.Repeat([]byte{78}, 100)}, nil, 100}, {[][]byte{make([]byte, 16)}, nil, 16},
		{[][]byte{bytes.Repeat(whole, 62500)}, slices.Repeat([]centre.Telegram{usual()}, 62500), 0}, {[][]byte{bytes.Repeat([]byte{84}, 999984), whole}, []centre.Telegram{usual()}, 999984},
	} {
		stream := bytes.Join(row.parts, nil)
		before := slices.Clone(stream)
		check(t, "Frames", results(centre.Frames(stream)), row.want, row.passed, api.OK)
		check(t, "the stream", results(bytes.Equal(stream, before)), true)
	}
	check(t, "Frames", results(centre.Frames(bytes.Repeat(whole, 62501)[:1000001])), noTelegrams, 0, api.ErrLong)
}

func TestP101FramesOtherwise(t *testing.T) {
	r := rand.New(rand.NewSource(1))
	found := 0
	for range 3000 {
		var stream []byte
		for range r.Intn(6) {
			f, e := centre.Encode(randomTelegram(r))
			check(t, "Encode", results(e), api.OK)
			if r.Intn(4) == 0 {
				f[r.Intn(16)] = byte(r.Intn(256))
			}
			from, to := pick(r, 0, 0, 0, r.Intn(16)), pick(r, 16, 16, 16, r.Intn(17))
			stream = append(stream, f[min(from, to):to]...)
			stream = append(stream, bytes.Repeat([]byte{pick[byte](r, 78, 84, 0)}, pick(r, 0, 0, 1, 5))...)
		}
		want, passed := slowFrames(stream)
		found += len(want)
		check(t, "Frames", results(centre.Frames(stream)), want, passed, api.OK)
		if len(stream) < 16 {
			continue
		}
		x, e := centre.Decode(centre.Frame(stream[:16]))
		slow, ok := slowTelegram(stream)
		check(t, "Decode", results(e == api.OK, !ok || x == slow), ok, true)
	}
	check(t, "some frames are found", results(found > 2000), true)
}

func TestP101Follow(t *testing.T) {
	for _, row := range []struct {
		last, next, want int
		e                api.Errno
	}{
		{2, 5, 2, api.OK}, {65535, 0, 0, api.OK}, {2, 2, 0, api.ErrTwice}, {2, 1, 0, api.ErrOrder}, {0, 65535, 0, api.ErrOrder}, {0, 32768, 32767, api.OK}, {0, 32769, 0, api.ErrOrder}, {65535, 32767, 32767, api.OK}, {65535, 32768, 0, api.ErrOrder}, {40000, 7232, 32767, api.OK}, {40000, 7233, 0, api.ErrOrder}, {0, 0, 0, api.ErrTwice}, {65535, 65535, 0, api.ErrTwice},
		{-1, 0, 0, api.ErrRange}, {0, -1, 0, api.ErrRange}, {65536, 0, 0, api.ErrRange}, {0, 65536, 0, api.ErrRange}, {-1, -1, 0, api.ErrRange}, {65536, 65536, 0, api.ErrRange}, {math.MinInt, math.MaxInt, 0, api.ErrRange}, {math.MaxInt, math.MinInt, 0, api.ErrRange}, {0, math.MinInt, 0, api.ErrRange}, {math.MaxInt, 0, 0, api.ErrRange},
	} {
		check(t, "Follow", results(centre.Follow(row.last, row.next)), row.want, row.e)
	}
	for _, last := range []int{0, 1, 32767, 32768, 65535} {
		for lost := range 65535 {
			n, e := centre.Follow(last, (last+1+lost)%65536)
			if ok := lost < 32768; ok != (e == api.OK) || ok && n != lost || !ok && (n != 0 || e != api.ErrOrder) {
				t.Fatalf("Follow of %v with %v lost: got %v and %v", last, lost, n, e)
			}
		}
	}
}

func TestP101Missing(t *testing.T) {
	of := func(turbine int, sequences ...int) []centre.Telegram {
		var out []centre.Telegram
		for _, s := range sequences {
			out = append(out, telegram(turbine, s, 0))
		}
		return out
	}
	mixed := []centre.Telegram{telegram(1, 5, 0), telegram(2, 9, 0), telegram(1, 7, 0), telegram(2, 9, 0), telegram(1, 10, 0)}
	var long []int
	for i := range 1000 {
		long = append(long, i*32768%65536)
	}
	for _, row := range []struct {
		l       []centre.Telegram
		turbine int
		want    int
		e       api.Errno
	}{
		{of(1, 7), 1, 0, api.OK}, {of(1, 7, 8, 9), 1, 0, api.OK}, {of(1, 2, 5, 6, 65535/2), 1, 2 + 32760, api.OK}, {of(1, 65534, 1, 2), 1, 2, api.OK}, {mixed, 1, 3, api.OK}, {mixed, 2, 0, api.ErrTwice}, {of(65535, 0, 32768, 0, 32768), 65535, 3 * 32767, api.OK}, {of(1, long...), 1, 999 * 32767, api.OK},
		{of(1, 1, 2, 2, 1), 1, 0, api.ErrTwice}, {of(1, 1, 3, 2, 2), 1, 0, api.ErrOrder}, {of(1, 5, 5, 4), 1, 0, api.ErrTwice}, {of(1, 0, 32769), 1, 0, api.ErrOrder},
		{nil, 1, 0, api.ErrNone}, {mixed, 3, 0, api.ErrNone}, {mixed, 0, 0, api.ErrRange}, {mixed, 65536, 0, api.ErrRange}, {nil, -1, 0, api.ErrRange}, {mixed, math.MinInt, 0, api.ErrRange}, {mixed, math.MaxInt, 0, api.ErrRange}, {append(mixed, telegram(4, 1, -1)), 3, 0, api.ErrRange}, {append(of(1, 2, 2), centre.Telegram{}), 1, 0, api.ErrRange},
		{append(of(1, long...), telegram(2, 0, 0)), 2, 0, api.ErrMany}, {make([]centre.Telegram, 1001), 0, 0, api.ErrMany}, {make([]centre.Telegram, 1000), 1, 0, api.ErrRange},
	} {
		check(t, "Missing", results(centre.Missing(row.l, row.turbine)), row.want, row.e)
	}
	for _, x := range wrongTelegrams() {
		check(t, "Missing", results(centre.Missing([]centre.Telegram{usual(), x}, 1)), 0, api.ErrRange)
	}
}
