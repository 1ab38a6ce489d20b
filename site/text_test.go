package site_test

import (
	"math"
	"strings"
	"testing"

	"nacelle/api"
	"nacelle/site"
)

const northText = "site north 5\nturbine a 0 0\nturbine b 6 0\nturbine c 3 4\n"

func TestP16Print(t *testing.T) {
	s, e := site.Print(north())
	check(t, "Print", e, api.OK)
	check(t, "Print", s, northText)
	far := site.Site{Name: "far", Least: 1000, Turbines: []site.Turbine{{Name: "x_9", At: at(-1000, -7)}}}
	s, _ = site.Print(far)
	check(t, "Print", s, "site far 1000\nturbine x_9 -1000 -7\n")
	s, e = site.Print(site.Site{Name: "x"})
	check(t, "Print of no site", e, api.ErrRange)
	check(t, "Print of no site", s, "")
}

func TestP16Parse(t *testing.T) {
	s, i, e := site.Parse(northText)
	check(t, "Parse", e, api.OK)
	check(t, "Parse", i, 0)
	checkSite(t, "Parse", s, north())
	for _, row := range []struct {
		s string
		i int
		e api.Errno
	}{
		{"site a 1\n", 0, api.OK}, {"site a 1\nturbine b -1000 1000\n", 0, api.OK},
		{"", 0, api.ErrSyntax}, {"\n", 0, api.ErrSyntax}, {"site a 1", 0, api.ErrSyntax}, {"site a 1\n\n", 1, api.ErrSyntax}, {"\nsite a 1\n", 0, api.ErrSyntax},
		{"site a 1\nturbine b 0 0", 1, api.ErrSyntax}, {"site a 1\nx", 1, api.ErrSyntax}, {"turbine a 0 0\n", 0, api.ErrSyntax}, {"site a 1\nsite a 1\n", 1, api.ErrSyntax},
		{"site a\n", 0, api.ErrSyntax}, {"site a 1 1\n", 0, api.ErrSyntax}, {"site  1\n", 0, api.ErrSyntax}, {"site a  1\n", 0, api.ErrSyntax}, {" site a 1\n", 0, api.ErrSyntax},
		{"site a 1 \n", 0, api.ErrSyntax}, {"site a 1\r\n", 0, api.ErrSyntax}, {"Site a 1\n", 0, api.ErrSyntax}, {"site\ta 1\n", 0, api.ErrSyntax}, {"site a b\n", 0, api.ErrSyntax},
		{"site a 01\n", 0, api.ErrSyntax}, {"site a 00\n", 0, api.ErrSyntax}, {"site a +1\n", 0, api.ErrSyntax}, {"site a -\n", 0, api.ErrSyntax}, {"site a -0\n", 0, api.ErrSyntax},
		{"site a -01\n", 0, api.ErrSyntax}, {"site a 1_0\n", 0, api.ErrSyntax}, {"site a 0x1\n", 0, api.ErrSyntax}, {"site a 1.0\n", 0, api.ErrSyntax}, {"site a --1\n", 0, api.ErrSyntax},
		{"site a 1000000000\n", 0, api.ErrSyntax}, {"site a -1000000000\n", 0, api.ErrSyntax}, {"site a 99999999999999999999\n", 0, api.ErrSyntax},
		{"site a 999999999\n", 1, api.ErrRange}, {"site a -999999999\n", 1, api.ErrRange}, {"site a 0\n", 1, api.ErrRange}, {"site 1 0\n", 1, api.ErrName}, {"site a\r 1\n", 1, api.ErrName},
		{"site a 5\nturbine b 0\n", 1, api.ErrSyntax}, {"site a 5\nturbine b 0 0 0\n", 1, api.ErrSyntax}, {"site a 5\nturbine b -0 0\n", 1, api.ErrSyntax}, {"site a 5\nturbine  0 0\n", 1, api.ErrSyntax},
		{"site 1 5\nturbine b 0 0\nturbine c 0\n", 2, api.ErrSyntax}, {"site a 5\nturbine b 0 0\nturbine b 9 9\n", 3, api.ErrTwice}, {"site a 5\nturbine b 0 0\nturbine c 1 1\n", 3, api.ErrOverlap},
		{"site a 5\nturbine b 1001 0\n", 2, api.ErrRange}, {"site a 1\n" + strings.Repeat("turbine b 0 0\n", 65), 66, api.ErrMany},
	} {
		s, i, e := site.Parse(row.s)
		if i != row.i || e != row.e {
			t.Errorf("Parse of %q: got %v and %v, want %v and %v", row.s, i, e, row.i, row.e)
		}
		if e != api.OK {
			checkZero(t, "Parse of "+row.s, s)
		}
	}
}

func TestP16ParseLong(t *testing.T) {
	line := "site a 1\nturbine "
	for _, row := range []struct {
		length, i int
		e         api.Errno
	}{{1000000, 1, api.ErrSyntax}, {1000001, 0, api.ErrLong}} {
		_, i, e := site.Parse(line + strings.Repeat("x", row.length-len(line)))
		check(t, "Parse of a long text", e, row.e)
		check(t, "Parse of a long text", i, row.i)
	}
	name := strings.Repeat("x", 1000000-len("site  1\n"))
	_, i, e := site.Parse("site " + name + " 1\n")
	check(t, "Parse of a long name", e, api.ErrName)
	check(t, "Parse of a long name", i, 1)
}

func TestP16Encode(t *testing.T) {
	c, e := site.Encode(wave())
	check(t, "Encode", e, api.OK)
	check(t, "the length", len(c), 57)
	want := []byte("WIND\x04wave\x00\x00\x00\x64\x00\x00\x00\x07\x00\x00\x00\x01\x00\x00\x00\x02\x00\x00\x00\x03")
	want = append(want, 63, 128, 0, 0, 64, 32, 0, 0, 0, 0, 0, 0, 63, 0, 0, 0, 64, 64, 0, 0, 63, 128, 0, 0, 63, 128, 0, 0)
	checkList(t, "Encode", c, want)
	c, _ = site.Encode(site.Series{Name: "z", Start: 999999999, Samples: []float32{negativeZero, -2048}})
	checkList(t, "Encode of -0", c, []byte("WIND\x01z\x3b\x9a\xc9\xff\x00\x00\x00\x02\x00\x00\x00\x00\x00\x00\x00\x00\xc5\x00\x00\x00"))
	c, e = site.Encode(site.Series{})
	check(t, "Encode of no series", e, api.ErrName)
	checkZero(t, "Encode of no series", c)
}

func TestP16Decode(t *testing.T) {
	c, _ := site.Encode(wave())
	s, e := site.Decode(c)
	check(t, "Decode", e, api.OK)
	checkSeries(t, "Decode", s, wave())
	changed := func(pairs ...int) []byte {
		out := append([]byte{}, c...)
		for i := 0; i < len(pairs); i += 2 {
			out[pairs[i]] = byte(pairs[i+1])
		}
		return out
	}
	for _, row := range []struct {
		name string
		s    []byte
		e    api.Errno
	}{
		{"nothing", nil, api.ErrTorn}, {"4 bytes", c[:4], api.ErrTorn}, {"4 wrong bytes", []byte("xxxx"), api.ErrTorn}, {"5 bytes", c[:5], api.ErrTorn}, {"5 wrong bytes", []byte("wINDx"), api.ErrForm},
		{"part of the name", c[:8], api.ErrTorn}, {"part of the numbers", c[:20], api.ErrTorn}, {"no gap", c[:21], api.ErrTorn}, {"a byte less", c[:56], api.ErrTorn},
		{"a byte more", append(changed(), 0), api.ErrShape}, {"form before torn", changed(0, 'w', 4, 255), api.ErrForm}, {"the name too long", changed(4, 255), api.ErrTorn},
		{"name", changed(5, '9'), api.ErrName}, {"more samples", changed(16, 8), api.ErrTorn}, {"fewer samples", changed(16, 6), api.ErrShape},
		{"very many samples", changed(13, 255, 14, 255, 15, 255, 16, 255), api.ErrTorn}, {"very many gaps", changed(17, 255, 18, 255, 19, 255, 20, 255), api.ErrTorn}, {"most of all", changed(13, 255, 17, 255), api.ErrTorn},
		{"start", changed(9, 255), api.ErrRange}, {"gap that is none", changed(28, 2), api.ErrSpan}, {"gap far away", changed(25, 255), api.ErrSpan}, {"gap from far away", changed(21, 255), api.ErrSpan}, {"gap behind the end", changed(28, 8), api.ErrSpan},
		{"-0", changed(37, 128), api.ErrForm}, {"-0 before the name", changed(5, '9', 37, 128), api.ErrForm}, {"sample in a gap", changed(37, 63), api.ErrGap},
		{"no sixteenth", changed(32, 1), api.ErrRange}, {"infinity", changed(29, 127), api.ErrForm}, {"NaN", changed(29, 127, 30, 192), api.ErrForm}, {"name before NaN", changed(5, '9', 29, 127), api.ErrName},
	} {
		s, e := site.Decode(row.s)
		check(t, row.name, e, row.e)
		if e != api.OK {
			checkZero(t, row.name, s)
		}
	}
	noName, e := site.Decode(append([]byte("WIND"), make([]byte, 13)...))
	check(t, "no name", e, api.ErrName)
	checkZero(t, "no name", noName)
}

func TestP16DecodeLong(t *testing.T) {
	head := []byte("WIND\x01z\x00\x00\x00\x00")
	stream := func(samples, more int) []byte {
		out := append(append([]byte{}, head...), byte(samples>>24), byte(samples>>16), byte(samples>>8), byte(samples), 0, 0, 0, 0)
		return append(out, make([]byte, 4*samples+more)...)
	}
	most := (4000000 - 18) / 4
	for _, row := range []struct {
		s []byte
		e api.Errno
	}{
		{stream(40000, 0), api.OK}, {stream(40001, 0), api.ErrMany}, {stream(most, 0), api.ErrMany}, {stream(most, 2), api.ErrShape}, {stream(most, 3), api.ErrLong}, {make([]byte, 4000001), api.ErrLong}, {make([]byte, 4000000), api.ErrForm},
	} {
		_, e := site.Decode(row.s)
		check(t, "Decode of a long stream", e, row.e)
	}
	c, e := site.Encode(site.Series{Name: "z", Samples: make([]float32, 40000), Gaps: combs(1024, 2, 0)})
	check(t, "Encode of a long series", e, api.OK)
	s, _ := site.Decode(c)
	checkSeries(t, "Decode of a long series", s, site.Series{Name: "z", Samples: make([]float32, 40000), Gaps: combs(1024, 2, 0)})
}

func TestP16Memory(t *testing.T) {
	c, _ := site.Encode(wave())
	s, _ := site.Decode(c)
	for i := range c {
		c[i] = 255
	}
	checkSeries(t, "a series of a stream that was changed", s, wave())
	check(t, "a sample is finite", math.IsNaN(float64(s.Samples[0])), false)
}
