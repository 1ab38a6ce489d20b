package grid

import (
	"iter"
	"slices"

	"nacelle/api"
	"nacelle/check"
	"nacelle/list"
)

// Line is a cable between two nodes that may be switched on.
type Line struct {
	A         int
	B         int
	Impedance complex128
}

// reversed returns a line that leads the other way.
func (l Line) reversed() Line { return Line{A: l.B, B: l.A, Impedance: l.Impedance} }

// check returns the first error of a line between some nodes, or OK.
func (l Line) check(nodes int) api.Errno {
	return check.First(
		check.That(min(l.A, l.B) >= 0 && max(l.A, l.B) < nodes, api.ErrUnknown), check.That(l.A != l.B, api.ErrRing),
		checkImpedance(l.Impedance),
	)
}

// CheckLines returns the first error of lines between some nodes, or OK.
func CheckLines(l []Line, nodes int) api.Errno {
	return check.First(
		check.Range(nodes, 1, MaxLines+1), check.Many(len(l), MaxLines),
		check.Each(l, func(x Line) api.Errno { return x.check(nodes) }),
	)
}

// linesOf returns the lines of each node, which all lead from it.
func linesOf(l []Line) map[int][]Line {
	out := map[int][]Line{}
	for _, x := range l {
		out[x.A] = append(out[x.A], x)
		out[x.B] = append(out[x.B], x.reversed())
	}
	return out
}

// tree is nodes in their order, and the cables that lead from those behind the first one.
type tree struct {
	order  []int
	cables []Cable
}

// joins reports whether a line leads from a node that is not in the order to one that is.
func (t tree) joins(l Line) bool {
	return !slices.Contains(t.order, l.A) && slices.Contains(t.order, l.B)
}

// with returns a tree with a line that joins it.
func (t tree) with(l Line) tree {
	cable := Cable{Parent: slices.Index(t.order, l.B), Impedance: l.Impedance}
	return tree{order: append(t.order, l.A), cables: append(t.cables, cable)}
}

// treeOf returns the tree of lines that were checked, or false if they are none.
func treeOf(l []Line, nodes int) (tree, bool) {
	lines := linesOf(l)
	out := tree{order: []int{0}}
search:
	for len(out.order) < nodes {
		for node := range nodes {
			if i := slices.IndexFunc(lines[node], out.joins); i >= 0 {
				out = out.with(lines[node][i])
				continue search
			}
		}
		break search // no line leads to the other nodes
	}
	return out, len(out.order) == nodes && len(l) == nodes-1
}

// trees visits those sets of lines that are a tree: the lists of their indices, in the order of these, and the trees.
func trees(l []Line, nodes int) iter.Seq2[[]int, tree] {
	var indices []int
	for i := range l {
		indices = append(indices, i)
	}
	return func(yield func([]int, tree) bool) {
		// The line 0 has the highest bit of a set. So of two sets with as many lines the greater one comes first.
		for set := 1<<len(l) - 1; set >= 0; set-- {
			chosen := list.Kept(indices, func(i int) bool { return set>>(len(l)-1-i)&1 == 1 })
			t, ok := treeOf(list.Changed(chosen, func(i int) Line { return l[i] }), nodes)
			if ok && !yield(chosen, t) {
				return
			}
		}
	}
}

// loss returns the real part of the losses of a tree, with currents of the nodes from 1 on.
func (t tree) loss(in []complex128) float64 {
	ordered := list.Changed(t.order[1:], func(node int) complex128 { return in[node-1] })
	return real(flow{cables: t.cables, in: ordered}.losses())
}

// Switch returns the lines that connect all nodes with the least loss.
func Switch(l []Line, in []complex128) ([]int, api.Errno) {
	nodes := len(in) + 1
	if e := check.First(check.That(len(in) <= MaxLines, api.ErrShape), CheckLines(l, nodes), check.Each(in, checkCurrent)); e != api.OK {
		return nil, e
	}
	var best []int
	least, e := 0.0, api.ErrInfeasible
	for chosen, t := range trees(l, nodes) {
		if loss := t.loss(in); e != api.OK || loss < least {
			best, least, e = chosen, loss, api.OK
		}
	}
	return best, e
}

// Cables returns the cables of lines that are a tree, and the order of the nodes.
func Cables(l []Line, nodes int) ([]Cable, []int, api.Errno) {
	if e := CheckLines(l, nodes); e != api.OK {
		return nil, nil, e
	}
	t, ok := treeOf(l, nodes)
	if !ok {
		return nil, nil, api.ErrRing
	}
	return t.cables, t.order, api.OK
}
