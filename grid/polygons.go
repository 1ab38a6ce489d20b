package grid

import (
	"cmp"
	"iter"
	"slices"

	"nacelle/api"
	"nacelle/check"
	"nacelle/list"
	"nacelle/ratio"
)

// minCorners is how many corners a polygon has at least.
const minCorners = 3

// corner is a point that may be a corner of a polygon.
type corner api.Point

// compare compares two points by their Y, then by their X. The first corner of a polygon is the least one.
func (c corner) compare(d corner) int {
	return cmp.Or(cmp.Compare(c.Y, d.Y), cmp.Compare(c.X, d.X))
}

// plus returns the sum of two points.
func (c corner) plus(d corner) corner { return corner{X: c.X + d.X, Y: c.Y + d.Y} }

// turn returns a number above 0 if a third point lies to the left of the way from one to another, 0 if it lies on it.
func (c corner) turn(to, third corner) int {
	return (to.X-c.X)*(third.Y-c.Y) - (to.Y-c.Y)*(third.X-c.X)
}

// polygon is the corners of a polygon.
type polygon []corner

// cornersOf returns points as corners.
func cornersOf(l []api.Point) polygon {
	return list.Changed(l, func(p api.Point) corner { return corner(p) })
}

// points returns the corners of a polygon as points.
func (p polygon) points() []api.Point {
	return list.Changed(p, func(c corner) api.Point { return api.Point(c) })
}

// chain returns the corners of a way from the first one of sorted points to the last one, that turns left at each corner, and has no point to its right.
func chain(sorted []corner) []corner {
	var out []corner
	for _, c := range sorted {
		for len(out) >= 2 && out[len(out)-2].turn(out[len(out)-1], c) <= 0 {
			out = out[:len(out)-1]
		}
		out = append(out, c)
	}
	return out
}

// around returns the least polygon around points, at least one. If they lie in a line, it has two corners.
func around(l []corner) polygon {
	sorted := slices.Clone(l)
	slices.SortFunc(sorted, corner.compare)
	up := chain(sorted)
	slices.Reverse(sorted)
	down := chain(sorted)
	return slices.Concat(up[:len(up)-1], down[:len(down)-1])
}

// edges visits each corner of a polygon with the next one.
func (p polygon) edges() iter.Seq2[corner, corner] {
	return func(yield func(corner, corner) bool) {
		for i, c := range p {
			if !yield(c, p[(i+1)%len(p)]) {
				return
			}
		}
	}
}

// contains reports whether a point is in a polygon.
func (p polygon) contains(c corner) bool {
	for from, to := range p.edges() {
		if from.turn(to, c) < 0 {
			return false
		}
	}
	return true
}

// span returns the least and the greatest X of the points of a polygon with a Y, or zero values if there are none.
func (p polygon) span(y int) [2]api.Ratio {
	var out [2]api.Ratio
	for from, to := range p.edges() {
		rise := to.Y - from.Y
		if rise == 0 || y < min(from.Y, to.Y) || y > max(from.Y, to.Y) {
			continue
		}
		x := ratio.Of(from.X*rise+(to.X-from.X)*(y-from.Y), rise)
		if rise > 0 { // the corners go round counterclockwise: up on the side of the greatest X
			out[1] = x
		} else {
			out[0] = x
		}
	}
	return out
}

// CheckPolygon returns the first error of the corners of a polygon, or OK.
func CheckPolygon(l []api.Point) api.Errno {
	if e := check.First(check.Many(len(l), MaxCorners), check.That(len(l) >= minCorners, api.ErrShape), check.Each(l, checkPoint)); e != api.OK {
		return e
	}
	corners := cornersOf(l)
	return check.Order(slices.Equal(corners, around(corners)))
}

// Inside reports whether a point is in a polygon.
func Inside(l []api.Point, p api.Point) (bool, api.Errno) {
	if e := check.First(CheckPolygon(l), checkPoint(p)); e != api.OK {
		return false, e
	}
	return cornersOf(l).contains(corner(p)), api.OK
}

// Sum returns the polygon of the sums of points of two polygons.
func Sum(a, b []api.Point) ([]api.Point, api.Errno) {
	if e := check.First(CheckPolygon(a), CheckPolygon(b)); e != api.OK {
		return nil, e
	}
	var sums []corner
	for _, c := range cornersOf(a) {
		sums = append(sums, list.Changed(cornersOf(b), c.plus)...)
	}
	out := around(sums).points()
	if e := check.First(check.That(check.Each(out, checkPoint) == api.OK, api.ErrLarge), check.Many(len(out), MaxCorners)); e != api.OK {
		return nil, e
	}
	return out, api.OK
}

// Range returns the least and the greatest X of a polygon at a Y.
func Range(l []api.Point, y int) ([2]api.Ratio, api.Errno) {
	if e := check.First(CheckPolygon(l), checkPower(y)); e != api.OK {
		return [2]api.Ratio{}, e
	}
	out := cornersOf(l).span(y)
	return out, check.That(out != [2]api.Ratio{}, api.ErrNone)
}
