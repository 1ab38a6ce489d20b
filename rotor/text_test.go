package rotor_test

import (
	"strings"
	"testing"

	"nacelle/api"
	"nacelle/rotor"
)

const bText = "polar 0 0 1 0 2 1\nring 2 1 0 256\n"

func TestP31Print(t *testing.T) {
	s, e := rotor.Print(b())
	check(t, "Print", e, api.OK)
	check(t, "Print", s, bText)
	two := b()
	two.Rings = append(two.Rings, rotor.Ring{Radius: 200, Chord: 100, Twist: -64, Tip: 0})
	s, _ = rotor.Print(two)
	check(t, "Print of two rings", s, bText+"ring 200 100 -64 0\n")
	s, e = rotor.Print(most())
	check(t, "Print of the greatest blade", e, api.OK)
	check(t, "the length of the greatest text", len(s), 6+64*5+16*21)
	for _, row := range []struct {
		blade rotor.Blade
		e     api.Errno
	}{{rotor.Blade{}, api.ErrEmpty}, {long(33, 1), api.ErrMany}, {long(1, 0), api.ErrEmpty}, {long(1, 17), api.ErrMany}} {
		s, e := rotor.Print(row.blade)
		check(t, "Print of no blade", e, row.e)
		checkZero(t, "Print of no blade", s)
	}
}

func TestP31Parse(t *testing.T) {
	blade, i, e := rotor.Parse(bText)
	check(t, "Parse", e, api.OK)
	check(t, "Parse", i, 0)
	checkBlade(t, "Parse", blade, b())
	const polar, ring = "polar 0 0\n", "ring 2 1 0 256\n"
	for _, row := range []struct {
		s string
		i int
		e api.Errno
	}{
		{"polar 0 1000\nring 1 1 -64 0\nring 200 100 64 256\n", 0, api.OK},
		{"", 0, api.ErrSyntax}, {"\n", 0, api.ErrSyntax}, {"polar 0 0", 0, api.ErrSyntax}, {"polar", 0, api.ErrSyntax}, {"x", 0, api.ErrSyntax}, {polar + "ring 2 1 0 256", 1, api.ErrSyntax}, {polar + "x", 1, api.ErrSyntax}, {polar + ring + "\n", 2, api.ErrSyntax}, {"\n" + polar + ring, 0, api.ErrSyntax},
		{ring, 0, api.ErrSyntax}, {ring + polar, 0, api.ErrSyntax}, {polar + polar, 1, api.ErrSyntax}, {polar + ring + polar, 2, api.ErrSyntax}, {"ring 0 0\n" + ring, 0, api.ErrSyntax}, {polar + "polar 2 1 0 256\n", 1, api.ErrSyntax}, {"Polar 0 0\n" + ring, 0, api.ErrSyntax}, {"blade 0 0\n" + ring, 0, api.ErrSyntax},
		{"polar 0\n" + ring, 0, api.ErrSyntax}, {"polar 0 0 1\n" + ring, 0, api.ErrSyntax}, {polar + "ring 2 1 0\n", 1, api.ErrSyntax}, {polar + "ring 2 1 0 256 0\n", 1, api.ErrSyntax}, {polar + "ring\n", 1, api.ErrSyntax}, {polar + ring + "ring 3\n" + "ring 4\n", 2, api.ErrSyntax},
		{"polar  0 0\n" + ring, 0, api.ErrSyntax}, {"polar 0  0\n" + ring, 0, api.ErrSyntax}, {" polar 0 0\n" + ring, 0, api.ErrSyntax}, {"polar 0 0 \n" + ring, 0, api.ErrSyntax}, {"polar \n" + ring, 0, api.ErrSyntax}, {"polar\t0 0\n" + ring, 0, api.ErrSyntax}, {"polar 0 0\r\n" + ring, 0, api.ErrSyntax}, {polar + "ring 2 1 0 256 \n", 1, api.ErrSyntax},
		{"polar 0 -0\n" + ring, 0, api.ErrSyntax}, {"polar 0 00\n" + ring, 0, api.ErrSyntax}, {"polar 01 0\n" + ring, 0, api.ErrSyntax}, {"polar +1 0\n" + ring, 0, api.ErrSyntax}, {"polar a 0\n" + ring, 0, api.ErrSyntax}, {"polar 1.0 0\n" + ring, 0, api.ErrSyntax}, {polar + "ring 2 1 -01 256\n", 1, api.ErrSyntax}, {polar + "ring 2 1 - 256\n", 1, api.ErrSyntax}, {polar + "ring 2 1 0x1 256\n", 1, api.ErrSyntax},
		{"polar 1000000000 0\n" + ring, 0, api.ErrSyntax}, {polar + "ring 2 1 -1000000000 0\n", 1, api.ErrSyntax}, {"polar 99999999999999999999 0\n" + ring, 0, api.ErrSyntax}, {"polar 999999999 0\n" + ring, 2, api.ErrRange}, {polar + "ring 2 1 -999999999 0\n", 2, api.ErrRange},
		{"polar\n", 1, api.ErrEmpty}, {"polar\n" + ring + ring, 3, api.ErrEmpty}, {polar, 1, api.ErrEmpty}, {"polar" + strings.Repeat(" 0", 64) + "\n" + ring, 0, api.OK}, {"polar" + strings.Repeat(" 0", 66) + "\n" + ring, 2, api.ErrMany},
		{"polar -1 0\n" + ring, 2, api.ErrRange}, {"polar 0 -1\n" + ring, 2, api.ErrRange}, {"polar 1 0 0 0\n" + ring, 2, api.ErrOrder}, {"polar 0 1 0 0\n" + ring, 0, api.OK}, {polar + ring + ring, 3, api.ErrOrder}, {polar + "ring 0 1 0 0\n" + ring, 3, api.ErrRange}, {polar + strings.Repeat(ring, 17), 18, api.ErrMany},
		{"polar -1 0\n" + ring + "ring 1\n", 2, api.ErrSyntax},
	} {
		blade, i, e := rotor.Parse(row.s)
		if i != row.i || e != row.e {
			t.Errorf("Parse of %q: got %v and %v, want %v and %v", row.s, i, e, row.i, row.e)
		}
		if e != api.OK {
			checkZero(t, "Parse of "+row.s, blade)
		}
	}
}

func TestP31ParseLong(t *testing.T) {
	zeros := "polar" + strings.Repeat(" 0", 2044) // 4093 bytes
	for _, row := range []struct {
		s string
		i int
		e api.Errno
	}{
		{strings.Repeat("x", 4096), 0, api.ErrSyntax}, {strings.Repeat("x", 4097), 0, api.ErrLong}, {strings.Repeat("\n", 4097), 0, api.ErrLong}, {zeros + " 0", 0, api.ErrSyntax}, {zeros + "\n", 1, api.ErrMany}, {zeros + "\n\n", 1, api.ErrSyntax}, {zeros + "\n\nx", 1, api.ErrSyntax}, {zeros + "\n\nxy", 0, api.ErrLong},
	} {
		blade, i, e := rotor.Parse(row.s)
		check(t, "Parse of a long text", e, row.e)
		check(t, "Parse of a long text", i, row.i)
		checkZero(t, "Parse of a long text", blade)
	}
}

func TestP31Memory(t *testing.T) {
	blade, _, _ := rotor.Parse(bText)
	blade.Polar.Lift[0], blade.Polar.Drag[0], blade.Rings[0].Radius = 7, 7, 7
	again, _, _ := rotor.Parse(bText)
	checkBlade(t, "Parse again", again, b())
}
