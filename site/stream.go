package site

import (
	"math"

	"nacelle/api"
	"nacelle/check"
)

const (
	mark      = "WIND" // the first bytes of a stream
	before    = 5      // bytes before the name
	counts    = 12     // bytes of the three numbers behind the name
	gapSize   = 8      // bytes of a gap
	wordSize  = 4      // bytes of a number, or of a sample
	minusZero = 1 << 31
)

// Encode returns the stream of a series.
func Encode(s Series) ([]byte, api.Errno) {
	if e := CheckSeries(s); e != api.OK {
		return nil, e
	}
	out := []byte(mark)
	out = append(out, byte(len(s.Name)))
	out = append(out, s.Name...)
	out = withNumbers(out, s.Start, len(s.Samples), len(s.Gaps))
	for _, g := range s.Gaps {
		out = withNumbers(out, g.From, g.To)
	}
	for _, x := range s.Samples {
		out = withWord(out, math.Float32bits(plain(x)))
	}
	return out, api.OK
}

// withNumbers returns bytes with numbers behind them.
func withNumbers(out []byte, numbers ...int) []byte {
	for _, n := range numbers {
		out = withWord(out, uint32(n))
	}
	return out
}

// withWord returns bytes with a word behind them, its highest byte first.
func withWord(out []byte, x uint32) []byte {
	return append(out, byte(x>>24), byte(x>>16), byte(x>>8), byte(x))
}

// Decode returns the series of a stream.
func Decode(s []byte) (Series, api.Errno) {
	switch {
	case len(s) > api.MaxStream:
		return Series{}, api.ErrLong
	case len(s) < before:
		return Series{}, api.ErrTorn
	case string(s[:len(mark)]) != mark:
		return Series{}, api.ErrForm
	}
	end := before + int(s[before-1])
	if len(s) < end+counts {
		return Series{}, api.ErrTorn
	}
	r := reader{left: s[end:]}
	out := Series{Name: string(s[before:end]), Start: r.number()}
	samples := r.number()
	gaps := r.number()
	switch need := gapSize*gaps + wordSize*samples; {
	case len(r.left) < need:
		return Series{}, api.ErrTorn
	case len(r.left) > need:
		return Series{}, api.ErrShape
	}
	out.Gaps = r.gaps(gaps)
	e := api.OK
	out.Samples, e = r.samples(samples)
	if e = check.First(e, CheckSeries(out)); e != api.OK {
		return Series{}, e
	}
	return out, api.OK
}

// reader is those bytes of a stream that were not read yet; who reads a word has counted that it is there.
type reader struct {
	left []byte
}

func (r *reader) word() uint32 {
	x := uint32(0)
	for _, b := range r.left[:wordSize] {
		x = x<<8 | uint32(b)
	}
	r.left = r.left[wordSize:]
	return x
}

func (r *reader) number() int { return int(r.word()) }

func (r *reader) gaps(count int) []api.Span {
	out := make([]api.Span, count)
	for i := range out {
		out[i].From = r.number()
		out[i].To = r.number()
	}
	return out
}

// samples reads samples; it returns ErrForm if one is -0, which has another form in a stream.
func (r *reader) samples(count int) ([]float32, api.Errno) {
	out := make([]float32, count)
	for i := range out {
		bits := r.word()
		if bits == minusZero {
			return nil, api.ErrForm
		}
		out[i] = math.Float32frombits(bits)
	}
	return out, api.OK
}
