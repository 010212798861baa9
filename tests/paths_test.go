package tests

import (
	"math"
	"runtime"
	"slices"
	"strconv"
	"strings"
	"sync"
	"testing"
	"time"

	"loop.example/polycircuits/impl"
)

// program returns the program of a text like `0 1 x;1 2 y+1`, with a from, a to
// and a label of each arrow.
func program(t *testing.T, p int, nodes int, s string) impl.Program {
	t.Helper()
	g := impl.Program{Nodes: nodes}
	if s == "" {
		return g
	}
	for part := range strings.SplitSeq(s, ";") {
		fields := strings.Fields(part)
		from, errFrom := strconv.Atoi(fields[0])
		to, errTo := strconv.Atoi(fields[1])
		if errFrom != nil || errTo != nil {
			t.Fatalf("%q is no arrow", part)
		}
		g.Arrows = append(g.Arrows, impl.Arrow{From: from, To: to, Label: read(t, p, fields[2])})
	}
	return g
}

// linear returns the polynomial of degree 1 or less with what stands before x,
// y and z, and alone.
func linear(p int, x int, y int, z int, alone int) impl.Poly {
	f, _ := plain{powers{1, 0, 0}: x, powers{0, 1, 0}: y, powers{0, 0, 1}: z, powers{}: alone}.over(p)
	return f
}

// label returns a drawn label: often 0, an element or one unknown.
func (d *draw) label(p int) impl.Poly {
	switch d.below(6) {
	case 0:
		return nil
	case 1:
		return linear(p, 0, 0, 0, 1+d.below(p-1))
	case 2:
		return line(d.below(3), 1, 1)
	}
	return linear(p, d.below(p), d.below(p), d.below(p), d.below(p))
}

// program returns a drawn program, whose arrows may stand in any order, several
// of them from one node to another.
func (d *draw) program(p int, nodes int, arrows int) impl.Program {
	g := impl.Program{Nodes: nodes}
	for range arrows {
		from := d.below(nodes - 1)
		to := from + 1 + d.below(nodes-1-from)
		g.Arrows = append(g.Arrows, impl.Arrow{From: from, To: to, Label: d.label(p)})
	}
	return g
}

// eachProgram calls for drawn programs of each field, number of nodes and of arrows.
func eachProgram(seed draw, check func(d *draw, p int, g impl.Program)) {
	for _, p := range primes {
		for nodes := 2; nodes <= 5; nodes++ {
			for arrows := range 11 {
				for range 4 {
					check(&seed, p, seed.program(p, nodes, arrows))
				}
			}
		}
	}
}

// waysFrom returns all rows of arrows from a node to the last one.
func waysFrom(g impl.Program, node int) [][]impl.Arrow {
	if node == g.Nodes-1 {
		return [][]impl.Arrow{nil}
	}
	var ways [][]impl.Arrow
	for _, arrow := range g.Arrows {
		if arrow.From == node {
			for _, rest := range waysFrom(g, arrow.To) {
				ways = append(ways, append([]impl.Arrow{arrow}, rest...))
			}
		}
	}
	return ways
}

// sumOfWays returns the sum over all ways, each one multiplied out on its own.
func sumOfWays(g impl.Program) plain {
	sum := plain{}
	for _, way := range waysFrom(g, 0) {
		product := plain{powers{}: 1}
		for _, arrow := range way {
			product = product.times(plainOf(arrow.Label))
		}
		sum = sum.plus(product)
	}
	return sum
}

// pathRows returns what stands in the matrix of a program at a point, as any numbers.
func pathRows(p int, g impl.Program, at point) impl.Matrix {
	m := full(0, g.Nodes-1, g.Nodes-1)
	for i := 1; i < len(m); i++ {
		m[i][i-1] = 1
	}
	for _, arrow := range g.Arrows {
		m[arrow.From][arrow.To-1] -= plainOf(arrow.Label).at(p, at)
	}
	return m
}

func sameProgram(g impl.Program, h impl.Program) bool {
	return g.Nodes == h.Nodes && slices.EqualFunc(g.Arrows, h.Arrows, func(a impl.Arrow, b impl.Arrow) bool {
		return a.From == b.From && a.To == b.To && slices.Equal(a.Label, b.Label)
	})
}

func copyOfProgram(g impl.Program) impl.Program {
	g.Arrows = slices.Clone(g.Arrows)
	for i := range g.Arrows {
		g.Arrows[i].Label = slices.Clone(g.Arrows[i].Label)
	}
	return g
}

func expectProgram(t *testing.T, name string, got impl.Program, ok bool, want impl.Program) {
	t.Helper()
	if !ok || !sameProgram(got, want) {
		t.Errorf("%s = %v, %v, want %v", name, got, ok, want)
	}
}

func expectNoProgram(t *testing.T, name string, got impl.Program, ok bool) {
	t.Helper()
	if ok || got.Nodes != 0 || len(got.Arrows) != 0 {
		t.Errorf("%s = %v, %v, want the zero value and false", name, got, ok)
	}
}

// expectPaths checks what a program makes as a whole.
func expectPaths(t *testing.T, p int, g impl.Program) {
	t.Helper()
	if !impl.ProgramValid(p, g) {
		t.Errorf("ProgramValid(%d, %v) = false", p, g)
	}
	f, ok := impl.PathsPoly(p, g)
	expectPlain(t, "PathsPoly", p, f, ok, sumOfWays(g))
	if got, want := impl.CountPaths(p, g), len(waysFrom(g, 0)); got != want {
		t.Errorf("CountPaths(%d, %v) = %d, want %d", p, g, got, want)
	}
}

// expectPathsAt checks what a program makes at a point.
func expectPathsAt(t *testing.T, p int, g impl.Program, at point) {
	t.Helper()
	want := sumOfWays(g).at(p, at)
	if got := impl.PathsAt(p, g, at); got != want {
		t.Errorf("PathsAt(%d, %v, %v) = %d, want %d", p, g, at, got, want)
	}
	if got := impl.DetPaths(p, g, at); got != want {
		t.Errorf("DetPaths(%d, %v, %v) = %d, want %d", p, g, at, got, want)
	}
	expected := pathRows(p, g, at)
	m, ok := impl.MatrixAt(p, g, at)
	expectMatrix(t, "MatrixAt", m, ok, over(p, expected))
	det := expandedBy(-1, expected)
	if g.Nodes%2 == 0 {
		det = -det
	}
	if det = remainder(p, det); det != want {
		t.Errorf("over %d, %v has the value %d at %v, and the determinant %d", p, g, want, at, det)
	}
}

func TestKnownPaths(t *testing.T) {
	known := []struct {
		p, nodes int
		arrows   string
		sum      string
		count    int
	}{
		{5, 3, "0 1 x;1 2 y+1;0 2 z", "xy+x+z", 2},
		// No ways.
		{5, 2, "", "0", 0},
		{2, 5, "", "0", 0},
		{5, 3, "0 1 x", "0", 0},
		{5, 3, "1 2 x", "0", 0},
		{5, 4, "0 1 x;2 3 y", "0", 0},
		{5, 4, "0 2 x;1 3 y", "0", 0},
		{5, 5, "0 1 x;1 2 y;2 3 z", "0", 0},
		{5, 5, "1 2 x;2 3 y;3 4 z;1 4 1", "0", 0},
		// Several arrows from one node to another.
		{5, 2, "0 1 2;0 1 x", "x+2", 2},
		{5, 2, "0 1 x;0 1 x", "2x", 2},
		{2, 2, "0 1 x;0 1 x", "0", 2},
		{5, 2, "0 1 x;0 1 4x", "0", 2},
		{3, 2, "0 1 1;0 1 1;0 1 1;0 1 1;0 1 1;0 1 1;0 1 1;0 1 1;0 1 1;0 1 1", "1", 10},
		{5, 3, "0 1 x;1 2 y;0 1 x+1;1 2 y+1", "4xy+2x+2y+1", 4},
		{5, 3, "0 1 1;0 1 1;0 1 1;0 1 1;0 1 1;1 2 x;1 2 y;1 2 x;1 2 y;1 2 z", "0", 25},
		{7, 5, "0 1 1;1 2 1;2 3 1;3 4 1;0 1 1;1 2 1;2 3 1;3 4 1;0 1 1;1 2 1", "1", 36},
		// Arrows that lead past nodes, and nodes that no arrow reaches or leaves.
		{5, 5, "0 4 x+y", "x+y", 1},
		{5, 5, "0 4 x;1 4 y;0 2 z;2 3 1", "x", 1},
		{5, 4, "0 1 x;1 3 y;0 2 y;2 3 x", "2xy", 2},
		{5, 4, "0 1 x;1 3 y;0 2 y;2 3 4x", "0", 2},
		{5, 4, "2 3 z;1 2 y;0 1 x", "xyz", 1},
		{5, 5, "3 4 x;1 3 x;0 1 x", "x3", 1},
		{5, 5, "0 1 x;1 2 x;2 3 x;3 4 x", "x4", 1},
		{5, 5, "3 4 1;2 4 1;2 3 1;1 4 1;1 3 1;1 2 1;0 4 1;0 3 1;0 2 1;0 1 1", "3", 8},
		// Labels that are 0: the ways are there all the same.
		{5, 2, "0 1 0", "0", 1},
		{5, 3, "0 1 0;1 2 x;0 2 3", "3", 2},
		{5, 3, "0 1 x;1 2 0", "0", 1},
		{5, 3, "0 1 x;1 2 0;1 2 z", "xz", 2},
		// Labels of one kind and another.
		{13, 2, "0 1 12", "12", 1},
		{13, 3, "0 1 12;1 2 12", "1", 1},
		{13, 3, "0 1 x+2y+3z+4;1 2 5x+6y+7z+8", "5x2+3xy+9xz+2x+12y2+6yz+y+8z2+6", 1},
		{2, 3, "0 1 x+y;1 2 x+y", "x2+y2", 1},
		{3, 4, "0 1 x+1;1 2 x+1;2 3 x+1", "x3+1", 1},
		{2, 5, "0 1 x+y+z+1;1 2 x+y+z+1;2 3 x+y+z+1;3 4 x+y+z+1", "x4+y4+z4+1", 1},
	}
	for _, c := range known {
		g := program(t, c.p, c.nodes, c.arrows)
		f, ok := impl.PathsPoly(c.p, g)
		expectPoly(t, "PathsPoly of "+c.arrows, f, ok, read(t, c.p, c.sum))
		if got := impl.CountPaths(c.p, g); got != c.count {
			t.Errorf("CountPaths of %s = %d, want %d", c.arrows, got, c.count)
		}
		expectPaths(t, c.p, g)
		for _, at := range pointsOf(c.p) {
			expectPathsAt(t, c.p, g, at)
		}
	}
}

// Four labels of all kinds in a row make as many terms as a sum of ways can
// have, also if there are as many ways as ten arrows can make.
func TestGreatestSums(t *testing.T) {
	for _, p := range primes {
		row := impl.Program{Nodes: 5}
		many := impl.Program{Nodes: 5}
		for node, arrows := range []int{3, 3, 2, 2} {
			row.Arrows = append(row.Arrows, impl.Arrow{From: node, To: node + 1, Label: linear(p, 1, 1, 1, 1)})
			for n := range arrows {
				many.Arrows = append(many.Arrows, impl.Arrow{From: node, To: node + 1, Label: linear(p, 1+n, 1+node, p-1, 1)})
			}
		}
		expectPaths(t, p, row)
		expectPaths(t, p, many)
		if f, _ := impl.PathsPoly(p, row); p > 4 && len(f) != 35 {
			t.Errorf("over %d, PathsPoly has %d terms", p, len(f))
		}
		if got := impl.CountPaths(p, many); got != 36 {
			t.Errorf("over %d, CountPaths = %d, want 36", p, got)
		}
	}
}

func TestPaths(t *testing.T) {
	with, none, zero := 0, 0, 0
	eachProgram(110, func(d *draw, p int, g impl.Program) {
		expectPaths(t, p, g)
		for range 6 {
			expectPathsAt(t, p, g, d.point(p))
		}
		f, _ := impl.PathsPoly(p, g)
		switch {
		case len(f) > 0:
			with++
		case len(waysFrom(g, 0)) > 0:
			zero++
		default:
			none++
		}
	})
	if min(with, none, zero) < 50 {
		t.Errorf("%d programs have a sum that is not 0, %d ways with the sum 0, %d no ways", with, zero, none)
	}
}

// Each value is that of the sum of ways and that of the determinant, also where
// labels become 0.
func TestPathsAtAllPoints(t *testing.T) {
	d := draw(111)
	for _, p := range []int{2, 3, 5} {
		for nodes := 2; nodes <= 5; nodes++ {
			for range 8 {
				g := d.program(p, nodes, 1+d.below(10))
				f, ok := impl.PathsPoly(p, g)
				if !ok {
					t.Fatalf("over %d, no PathsPoly of %v", p, g)
				}
				for _, at := range pointsOf(p) {
					value, sum, det := impl.EvalPoly(p, f, at), impl.PathsAt(p, g, at), impl.DetPaths(p, g, at)
					if value != sum || value != det {
						t.Errorf("over %d, %v has the values %d, %d and %d at %v", p, g, value, sum, det, at)
					}
				}
			}
		}
	}
	g := program(t, 5, 4, "0 1 x+1;1 2 y+2;2 3 z+3;0 3 x+y+z")
	for at, want := range map[point]int{{4, 0, 0}: 4, {0, 3, 0}: 3, {0, 0, 2}: 2, {4, 3, 2}: 4, {0, 0, 0}: 1, {1, 0, 4}: 3, {1, 1, 1}: 2} {
		expectPathsAt(t, 5, g, at)
		if got := impl.PathsAt(5, g, at); got != want {
			t.Errorf("PathsAt(5, %v, %v) = %d, want %d", g, at, got, want)
		}
	}
}

// All choices of the ten arrows that five nodes have.
func TestAllChoicesOfArrows(t *testing.T) {
	for nodes := 2; nodes <= 5; nodes++ {
		var arrows []impl.Arrow
		for from := range nodes {
			for to := from + 1; to < nodes; to++ {
				arrows = append(arrows, impl.Arrow{From: from, To: to, Label: linear(13, 1+from, to, 1, from*to)})
			}
		}
		for choice := range 1 << len(arrows) {
			g := impl.Program{Nodes: nodes}
			for i, arrow := range arrows {
				if choice>>i&1 == 1 {
					g.Arrows = append(g.Arrows, arrow)
				}
			}
			expectPaths(t, 13, g)
			expectPathsAt(t, 13, g, point{choice % 13, choice % 11, choice % 7})
		}
		if got, want := impl.CountPaths(13, impl.Program{Nodes: nodes, Arrows: arrows}), 1<<(nodes-2); got != want {
			t.Errorf("CountPaths of all arrows of %d nodes = %d, want %d", nodes, got, want)
		}
	}
}

// eachOrder calls for a list in all orders.
func eachOrder(list []impl.Arrow, start int, check func()) {
	if start == len(list) {
		check()
		return
	}
	for i := start; i < len(list); i++ {
		list[start], list[i] = list[i], list[start]
		eachOrder(list, start+1, check)
		list[start], list[i] = list[i], list[start]
	}
}

// Arrows stand in any order, and no order changes a result or makes nodes wait
// for each other.
func TestOrdersOfArrows(t *testing.T) {
	at := point{2, 3, 4}
	g := program(t, 5, 4, "0 1 x;0 2 y;0 3 z+1;1 2 2;1 3 x+y;2 3 3z")
	f, _ := impl.PathsPoly(5, g)
	expectPoly(t, "PathsPoly", f, true, read(t, 5, "x2+xy+xz+3yz+z+1"))
	eachOrder(g.Arrows, 0, func() {
		got, ok := impl.PathsPoly(5, g)
		expectPoly(t, "PathsPoly", got, ok, f)
		if count, value, det := impl.CountPaths(5, g), impl.PathsAt(5, g, at), impl.DetPaths(5, g, at); count != 4 || value != 4 || det != 4 {
			t.Errorf("%v has %d ways and the values %d and %d", g, count, value, det)
		}
	})
	d := draw(112)
	for range 300 {
		p := primes[d.below(len(primes))]
		g := d.program(p, 5, 10)
		f, _ := impl.PathsPoly(p, g)
		count := impl.CountPaths(p, g)
		for i := range g.Arrows {
			other := d.below(i + 1)
			g.Arrows[i], g.Arrows[other] = g.Arrows[other], g.Arrows[i]
		}
		got, ok := impl.PathsPoly(p, g)
		expectPoly(t, "PathsPoly in another order", got, ok, f)
		if again := impl.CountPaths(p, g); again != count {
			t.Errorf("CountPaths(%d, %v) = %d, want %d", p, g, again, count)
		}
	}
}

func TestMatrixAt(t *testing.T) {
	known := []struct {
		p, nodes int
		arrows   string
		at       point
		m        string
		det      int
	}{
		{5, 3, "0 1 x;1 2 y+1;0 2 z", point{2, 3, 4}, "3 1|1 1", 2},
		{5, 2, "", point{}, "0", 0},
		{5, 3, "", point{}, "0 0|1 0", 0},
		{5, 5, "", point{1, 2, 3}, "0 0 0 0|1 0 0 0|0 1 0 0|0 0 1 0", 0},
		// An even number of nodes, where the sign of the determinant changes.
		{5, 2, "0 1 1", point{}, "4", 1},
		{5, 2, "0 1 2;0 1 x", point{2, 3, 4}, "1", 4},
		{2, 2, "0 1 x+y", point{1, 1, 0}, "0", 0},
		{5, 4, "0 1 1;1 2 1;2 3 1", point{}, "4 0 0|1 4 0|0 1 4", 1},
		{7, 4, "0 3 2", point{}, "0 0 5|1 0 0|0 1 0", 2},
		{7, 4, "2 3 x;0 1 y;1 2 z;0 2 1;1 3 2;0 3 3", point{4, 5, 6}, "2 6 4|1 1 5|0 1 3", 4},
		// An odd one, where it does not.
		{5, 3, "0 1 1;1 2 1", point{}, "4 0|1 4", 1},
		{5, 3, "0 2 1", point{}, "0 4|1 0", 1},
		{11, 5, "0 4 3", point{}, "0 0 0 8|1 0 0 0|0 1 0 0|0 0 1 0", 3},
		{11, 5, "0 1 x;1 2 x;2 3 x;3 4 x", point{3, 0, 0}, "8 0 0 0|1 8 0 0|0 1 8 0|0 0 1 8", 4},
		{2, 5, "0 1 1;1 2 1;2 3 1;3 4 1;0 4 x", point{1, 0, 0}, "1 0 0 1|1 1 0 0|0 1 1 0|0 0 1 1", 0},
		// Labels of several arrows are added, and those that are 0 change nothing.
		{5, 3, "0 1 3;0 1 4;1 2 0;0 2 x;0 2 4x", point{3, 0, 0}, "3 0|1 0", 0},
	}
	for _, c := range known {
		g := program(t, c.p, c.nodes, c.arrows)
		m, ok := impl.MatrixAt(c.p, g, c.at)
		expectMatrix(t, "MatrixAt of "+c.arrows, m, ok, rows(c.m))
		if got := impl.DetPaths(c.p, g, c.at); got != c.det {
			t.Errorf("DetPaths of %s = %d, want %d", c.arrows, got, c.det)
		}
		expectPathsAt(t, c.p, g, c.at)
	}
}

// renumbered returns the arrows of a program between nodes that have other numbers.
func renumbered(g impl.Program, numbers []int) []impl.Arrow {
	var arrows []impl.Arrow
	for _, arrow := range g.Arrows {
		arrows = append(arrows, impl.Arrow{From: numbers[arrow.From], To: numbers[arrow.To], Label: arrow.Label})
	}
	return arrows
}

// numbersFrom returns as many numbers, from a first one on.
func numbersFrom(first int, count int) []int {
	var list []int
	for n := range count {
		list = append(list, first+n)
	}
	return list
}

// chained returns g and then h as a program, which may be too great.
func chained(g impl.Program, h impl.Program) impl.Program {
	arrows := slices.Clone(g.Arrows)
	return impl.Program{Nodes: g.Nodes + h.Nodes - 1, Arrows: append(arrows, renumbered(h, numbersFrom(g.Nodes-1, h.Nodes))...)}
}

// besides returns g and h beside each other as a program, which may be too great.
func besides(g impl.Program, h impl.Program) impl.Program {
	inner := g.Nodes - 2 + h.Nodes - 2
	first := append(numbersFrom(0, g.Nodes-1), inner+1)
	second := append(append([]int{0}, numbersFrom(g.Nodes-1, h.Nodes-2)...), inner+1)
	return impl.Program{Nodes: inner + 2, Arrows: append(renumbered(g, first), renumbered(h, second)...)}
}

// expectChained checks g and h one behind the other, and tells whether there is
// such a program.
func expectChained(t *testing.T, p int, g impl.Program, h impl.Program) bool {
	t.Helper()
	got, ok := impl.ChainPrograms(p, g, h)
	if g.Nodes+h.Nodes-1 > 5 || len(g.Arrows)+len(h.Arrows) > 10 {
		expectNoProgram(t, "ChainPrograms", got, ok)
		return false
	}
	expectProgram(t, "ChainPrograms", got, ok, chained(g, h))
	f, ok := impl.PathsPoly(p, got)
	expectPlain(t, "PathsPoly of ChainPrograms", p, f, ok, sumOfWays(g).times(sumOfWays(h)))
	if count, want := impl.CountPaths(p, got), len(waysFrom(g, 0))*len(waysFrom(h, 0)); count != want {
		t.Errorf("CountPaths of ChainPrograms of %v and %v = %d, want %d", g, h, count, want)
	}
	return true
}

// expectBeside checks g and h side by side, and tells whether there is such a program.
func expectBeside(t *testing.T, p int, g impl.Program, h impl.Program) bool {
	t.Helper()
	got, ok := impl.BesidePrograms(p, g, h)
	if g.Nodes+h.Nodes-2 > 5 || len(g.Arrows)+len(h.Arrows) > 10 {
		expectNoProgram(t, "BesidePrograms", got, ok)
		return false
	}
	expectProgram(t, "BesidePrograms", got, ok, besides(g, h))
	f, ok := impl.PathsPoly(p, got)
	expectPlain(t, "PathsPoly of BesidePrograms", p, f, ok, sumOfWays(g).plus(sumOfWays(h)))
	if count, want := impl.CountPaths(p, got), len(waysFrom(g, 0))+len(waysFrom(h, 0)); count != want {
		t.Errorf("CountPaths of BesidePrograms of %v and %v = %d, want %d", g, h, count, want)
	}
	return true
}

func TestKnownJoinedPrograms(t *testing.T) {
	type joining struct {
		firstNodes  int
		first       string
		secondNodes int
		second      string
		nodes       int
		joined      string
	}
	chain := []joining{
		{2, "", 2, "", 3, ""},
		{3, "0 1 x;1 2 y+1;0 2 z", 2, "0 1 2;0 1 x", 4, "0 1 x;1 2 y+1;0 2 z;2 3 2;2 3 x"},
		{2, "0 1 2;0 1 x", 3, "0 1 x;1 2 y+1;0 2 z", 4, "0 1 2;0 1 x;1 2 x;2 3 y+1;1 3 z"},
		{3, "0 2 x", 3, "0 2 y", 5, "0 2 x;2 4 y"},
		{4, "1 2 0", 2, "0 1 1", 5, "1 2 0;3 4 1"},
		{2, "0 1 x", 4, "2 3 z;0 3 y", 5, "0 1 x;3 4 z;1 4 y"},
	}
	beside := []joining{
		{2, "", 2, "", 2, ""},
		{2, "0 1 x", 2, "0 1 y", 2, "0 1 x;0 1 y"},
		{3, "0 1 x;1 2 y+1;0 2 z", 2, "0 1 2;0 1 x", 3, "0 1 x;1 2 y+1;0 2 z;0 2 2;0 2 x"},
		{2, "0 1 2;0 1 x", 3, "0 1 x;1 2 y+1;0 2 z", 3, "0 2 2;0 2 x;0 1 x;1 2 y+1;0 2 z"},
		{3, "0 1 x;1 2 y;0 2 z", 3, "0 1 1;1 2 2;0 2 3", 4, "0 1 x;1 3 y;0 3 z;0 2 1;2 3 2;0 3 3"},
		{3, "0 1 x;1 2 y", 4, "0 1 x;1 2 y;2 3 z", 5, "0 1 x;1 4 y;0 2 x;2 3 y;3 4 z"},
		{4, "0 1 x;1 2 y;2 3 z", 3, "0 1 x;1 2 y", 5, "0 1 x;1 2 y;2 4 z;0 3 x;3 4 y"},
		{5, "0 1 x;3 4 y;2 3 0", 2, "0 1 z", 5, "0 1 x;3 4 y;2 3 0;0 4 z"},
		{2, "0 1 z", 5, "0 1 x;3 4 y;2 3 0", 5, "0 4 z;0 1 x;3 4 y;2 3 0"},
	}
	for _, c := range chain {
		g, h := program(t, 5, c.firstNodes, c.first), program(t, 5, c.secondNodes, c.second)
		got, ok := impl.ChainPrograms(5, g, h)
		expectProgram(t, "ChainPrograms of "+c.first+" and "+c.second, got, ok, program(t, 5, c.nodes, c.joined))
		expectChained(t, 5, g, h)
	}
	for _, c := range beside {
		g, h := program(t, 5, c.firstNodes, c.first), program(t, 5, c.secondNodes, c.second)
		got, ok := impl.BesidePrograms(5, g, h)
		expectProgram(t, "BesidePrograms of "+c.first+" and "+c.second, got, ok, program(t, 5, c.nodes, c.joined))
		expectBeside(t, 5, g, h)
	}
}

// All numbers of nodes and of arrows, those with just as many as a program has
// and those with one more among them.
func TestJoinedPrograms(t *testing.T) {
	d := draw(113)
	chains, besides, none := 0, 0, 0
	for _, p := range primes {
		for shape := range 4 * 4 * 11 * 11 {
			if p != 5 && d.below(4) > 0 {
				continue
			}
			g := d.program(p, 2+shape%4, shape/16%11)
			h := d.program(p, 2+shape/4%4, shape/16/11)
			if expectChained(t, p, g, h) {
				chains++
			} else {
				none++
			}
			if expectBeside(t, p, g, h) {
				besides++
			} else {
				none++
			}
		}
	}
	if min(chains, besides, none) < 500 {
		t.Errorf("%d programs are chained, %d beside each other, %d none", chains, besides, none)
	}
}

func TestProgramsJoinedToThemselves(t *testing.T) {
	d := draw(114)
	for _, p := range primes {
		for nodes := 2; nodes <= 5; nodes++ {
			for arrows := range 8 {
				g := d.program(p, nodes, arrows)
				before := copyOfProgram(g)
				if got, want := expectChained(t, p, g, g), nodes <= 3 && arrows <= 5; got != want {
					t.Errorf("over %d, %v is chained to itself: %v", p, g, got)
				}
				if got, want := expectBeside(t, p, g, g), nodes <= 3 && arrows <= 5; got != want {
					t.Errorf("over %d, %v is beside itself: %v", p, g, got)
				}
				if !sameProgram(g, before) {
					t.Errorf("over %d, %v has become %v", p, before, g)
				}
			}
		}
	}
}

// Chains of three are the same from either end, and the values of joined
// programs are products and sums of those of their parts.
func TestValuesOfJoinedPrograms(t *testing.T) {
	d := draw(115)
	for _, p := range primes {
		for range 60 {
			a, b, c := d.program(p, 2, d.below(4)), d.program(p, 2+d.below(2), d.below(4)), d.program(p, 2, d.below(4))
			ab, isFirst := impl.ChainPrograms(p, a, b)
			bc, isSecond := impl.ChainPrograms(p, b, c)
			left, isLeft := impl.ChainPrograms(p, ab, c)
			right, isRight := impl.ChainPrograms(p, a, bc)
			if !isFirst || !isSecond || !isLeft || !isRight || !sameProgram(left, right) {
				t.Errorf("over %d, the chains of %v, %v and %v are %v and %v", p, a, b, c, left, right)
			}
			sum, isSum := impl.BesidePrograms(p, ab, b)
			at := d.point(p)
			x, y, z := impl.PathsAt(p, a, at), impl.PathsAt(p, b, at), impl.PathsAt(p, c, at)
			if got, want := impl.PathsAt(p, left, at), x*y*z%p; got != want || impl.DetPaths(p, right, at) != want {
				t.Errorf("over %d, %v has the value %d at %v, want %d", p, left, got, at, want)
			}
			if got, want := impl.PathsAt(p, sum, at), (x*y+y)%p; !isSum || got != want || impl.DetPaths(p, sum, at) != want {
				t.Errorf("over %d, %v has the value %d at %v, want %d", p, sum, got, at, want)
			}
		}
	}
}

func TestProgramValid(t *testing.T) {
	if impl.MaxNodes != 5 {
		t.Errorf("MaxNodes = %d", impl.MaxNodes)
	}
	for _, p := range primes {
		for nodes := -2; nodes <= 8; nodes++ {
			for from := -2; from <= 8; from++ {
				for to := -2; to <= 8; to++ {
					g := impl.Program{Nodes: nodes, Arrows: []impl.Arrow{{From: from, To: to, Label: line(0, 1, 1)}}}
					want := nodes >= 2 && nodes <= 5 && from >= 0 && from < to && to < nodes
					if got := impl.ProgramValid(p, g); got != want {
						t.Errorf("ProgramValid(%d, %v) = %v", p, g, got)
					}
				}
			}
			for arrows := range 14 {
				g := impl.Program{Nodes: nodes}
				for range arrows {
					g.Arrows = append(g.Arrows, impl.Arrow{From: 0, To: 1})
				}
				want := nodes >= 2 && nodes <= 5 && arrows <= 10
				if got := impl.ProgramValid(p, g); got != want {
					t.Errorf("ProgramValid(%d, %v) = %v", p, g, got)
				}
			}
		}
		for n := range p * p * p * p {
			f := linear(p, n%p, n/p%p, n/p/p%p, n/p/p/p)
			if n < 3000 && !impl.ProgramValid(p, impl.Program{Nodes: 2, Arrows: []impl.Arrow{{From: 0, To: 1, Label: f}}}) {
				t.Errorf("over %d, %v is no label", p, f)
			}
		}
		for _, g := range noPrograms(p) {
			if impl.ProgramValid(p, g) {
				t.Errorf("ProgramValid(%d, %v) = true", p, g)
			}
		}
	}
	for _, p := range noPrimes {
		for nodes := 2; nodes <= 5; nodes++ {
			for _, arrows := range [][]impl.Arrow{nil, {{From: 0, To: 1}}, {{From: 0, To: 1, Label: impl.Poly{{Times: 1}}}}} {
				if impl.ProgramValid(p, impl.Program{Nodes: nodes, Arrows: arrows}) {
					t.Errorf("ProgramValid(%d, %d nodes) = true", p, nodes)
				}
			}
		}
	}
}

// noArrows are arrows that no program of three nodes over the field of p has.
func noArrows(p int) []impl.Arrow {
	var list []impl.Arrow
	for _, ends := range [][2]int{
		{0, 0}, {1, 1}, {2, 2}, {1, 0}, {2, 0}, {2, 1}, {0, 3}, {1, 3}, {2, 3}, {3, 4}, {0, 5}, {-1, 0}, {-1, 1}, {-1, 2}, {-2, -1}, {0, -1}, {3, 1},
		{math.MinInt, 1}, {0, math.MaxInt}, {math.MinInt, math.MaxInt}, {math.MaxInt, math.MinInt}, {math.MaxInt - 1, math.MaxInt},
	} {
		list = append(list, impl.Arrow{From: ends[0], To: ends[1], Label: line(0, 1, 1)}, impl.Arrow{From: ends[0], To: ends[1]})
	}
	labels := noPolys(p)
	for _, n := range outsideOf(p) {
		labels = append(labels, impl.Poly{{Times: n}}, impl.Poly{{Powers: powers{0, 1, 0}, Times: n}})
	}
	labels = append(labels, impl.Poly{{Times: 0}}, impl.Poly{{Powers: powers{1, 0, 0}, Times: 0}}, impl.Poly{{Times: 1}, {Powers: powers{1, 0, 0}, Times: 1}})
	labels = append(labels, impl.Poly{{Powers: powers{2, -1, 0}, Times: 1}}, impl.Poly{{Powers: powers{1, 0, 0}, Times: 1}, {Powers: powers{1, 0, 0}, Times: 1}})
	// These are polynomials, but of a degree that is too great.
	for _, k := range fallingPowers() {
		if degreeOf(k) == 2 || degreeOf(k) == 27 {
			labels = append(labels, impl.Poly{{Powers: k, Times: 1}}, impl.Poly{{Powers: k, Times: p - 1}, {Times: 1}})
		}
	}
	labels = append(labels, first(60), line(2, 0, 9), impl.Poly{{Powers: powers{1, 0, 0}, Times: 1}, {Powers: powers{0, 1, 1}, Times: 1}, {Times: 1}})
	for _, label := range labels {
		list = append(list, impl.Arrow{From: 0, To: 1, Label: label}, impl.Arrow{From: 1, To: 2, Label: label})
	}
	return list
}

// noPrograms are no programs over the field of p.
func noPrograms(p int) []impl.Program {
	list := []impl.Program{{}, {Nodes: 0, Arrows: []impl.Arrow{{From: 0, To: 1}}}, {Nodes: 1, Arrows: []impl.Arrow{{From: 0, To: 1}}}}
	for _, nodes := range []int{math.MinInt, -5, -2, -1, 0, 1, 6, 7, 9, math.MaxInt} {
		list = append(list, impl.Program{Nodes: nodes})
	}
	list = append(list, impl.Program{Nodes: 2, Arrows: make([]impl.Arrow, 1)}, impl.Program{Nodes: 2, Arrows: make([]impl.Arrow, 11)})
	eleven := slices.Repeat([]impl.Arrow{{From: 0, To: 1, Label: impl.Poly{{Times: 1}}}}, 11)
	for nodes := 2; nodes <= 5; nodes++ {
		list = append(list, impl.Program{Nodes: nodes, Arrows: eleven})
	}
	good := []impl.Arrow{{From: 0, To: 1, Label: line(0, 1, 1)}, {From: 1, To: 2, Label: line(1, 0, 1)}, {From: 0, To: 2, Label: line(2, 1, 1)}}
	for i, arrow := range noArrows(p) {
		list = append(list, impl.Program{Nodes: 3, Arrows: []impl.Arrow{arrow}})
		// One arrow among good ones is enough.
		list = append(list, impl.Program{Nodes: 3, Arrows: slices.Insert(slices.Clone(good), i%4, arrow)})
	}
	return list
}

// expectNothingAt checks the functions that ask for a point.
func expectNothingAt(t *testing.T, p int, g impl.Program, at point) {
	t.Helper()
	if got := impl.PathsAt(p, g, at); got != -1 {
		t.Errorf("PathsAt(%d, %v, %v) = %d, want -1", p, g, at, got)
	}
	if got := impl.DetPaths(p, g, at); got != -1 {
		t.Errorf("DetPaths(%d, %v, %v) = %d, want -1", p, g, at, got)
	}
	m, ok := impl.MatrixAt(p, g, at)
	expectNoMatrix(t, "MatrixAt", m, ok)
}

// expectNothingOfProgram checks all functions for what is no program.
func expectNothingOfProgram(t *testing.T, p int, g impl.Program) {
	t.Helper()
	f, ok := impl.PathsPoly(p, g)
	expectNone(t, "PathsPoly", f, ok)
	if got := impl.CountPaths(p, g); got != -1 {
		t.Errorf("CountPaths(%d, %v) = %d, want -1", p, g, got)
	}
	expectNothingAt(t, p, g, point{})
	expectNothingAt(t, p, g, point{1, 1, 1})
	expectNothingAt(t, p, g, point{-1, 0, 0})
	for nodes := 2; nodes <= 5; nodes++ {
		for _, h := range []impl.Program{{Nodes: nodes}, {Nodes: nodes, Arrows: []impl.Arrow{{From: 0, To: nodes - 1, Label: impl.Poly{{Times: 1}}}}}, g} {
			joined, ok := impl.ChainPrograms(p, g, h)
			expectNoProgram(t, "ChainPrograms", joined, ok)
			joined, ok = impl.ChainPrograms(p, h, g)
			expectNoProgram(t, "ChainPrograms", joined, ok)
			joined, ok = impl.BesidePrograms(p, g, h)
			expectNoProgram(t, "BesidePrograms", joined, ok)
			joined, ok = impl.BesidePrograms(p, h, g)
			expectNoProgram(t, "BesidePrograms", joined, ok)
		}
	}
}

func TestNoPrograms(t *testing.T) {
	for _, p := range primes {
		for _, g := range noPrograms(p) {
			expectNothingOfProgram(t, p, g)
		}
		// What both would make is a program, but one of them is none.
		for _, pair := range [][2]int{{1, 2}, {1, 5}, {0, 5}, {6, 0}, {-1, 5}, {math.MaxInt, math.MinInt}, {math.MaxInt, -math.MaxInt + 3}} {
			g, h := impl.Program{Nodes: pair[0]}, impl.Program{Nodes: pair[1]}
			joined, ok := impl.ChainPrograms(p, g, h)
			expectNoProgram(t, "ChainPrograms", joined, ok)
			joined, ok = impl.BesidePrograms(p, h, g)
			expectNoProgram(t, "BesidePrograms", joined, ok)
		}
	}
	for _, p := range noPrimes {
		for nodes := 2; nodes <= 5; nodes++ {
			expectNothingOfProgram(t, p, impl.Program{Nodes: nodes})
			expectNothingOfProgram(t, p, impl.Program{Nodes: nodes, Arrows: []impl.Arrow{{From: 0, To: 1, Label: impl.Poly{{Times: 1}}}}})
		}
	}
	// A label of another field.
	g := program(t, 7, 2, "0 1 6x")
	expectNothingOfProgram(t, 5, g)
	expectPaths(t, 7, g)
}

func TestPointsThatAreNone(t *testing.T) {
	d := draw(116)
	for _, p := range primes {
		for nodes := 2; nodes <= 5; nodes++ {
			g := d.program(p, nodes, d.below(11))
			for _, n := range outsideOf(p) {
				for v := range 3 {
					at := d.point(p)
					at[v] = n
					expectNothingAt(t, p, g, at)
					expectNothingAt(t, p, impl.Program{Nodes: nodes}, at)
				}
				expectNothingAt(t, p, g, point{n, n, n})
			}
		}
	}
}

// spaciousProgram returns a copy with other arrows behind its own, and other
// terms behind those of its labels.
func spaciousProgram(g impl.Program) impl.Program {
	result := copyOfProgram(g)
	junk := impl.Term{Powers: powers{-7, -7, -7}, Times: -7}
	for i, arrow := range result.Arrows {
		result.Arrows[i].Label = append(arrow.Label, junk, junk)[:len(arrow.Label)]
	}
	result.Arrows = append(result.Arrows, impl.Arrow{From: -7}, impl.Arrow{From: -7})[:len(g.Arrows)]
	return result
}

// wholeProgram returns a copy with all that is behind lengths.
func wholeProgram(g impl.Program) impl.Program {
	result := impl.Program{Nodes: g.Nodes}
	for _, arrow := range g.Arrows[:cap(g.Arrows)] {
		arrow.Label = slices.Clone(arrow.Label[:cap(arrow.Label)])
		result.Arrows = append(result.Arrows, arrow)
	}
	return result
}

// overwriteProgram changes a program and all that is behind lengths.
func overwriteProgram(g impl.Program) {
	arrows := g.Arrows[:cap(g.Arrows)]
	for i, arrow := range arrows {
		for k := range arrow.Label[:cap(arrow.Label)] {
			arrow.Label[:cap(arrow.Label)][k] = impl.Term{Times: -8}
		}
		arrows[i] = impl.Arrow{From: -8}
	}
}

// expectNewProgram checks that a call returns a program whose labels share no
// memory with each other, and nothing with a program that it returns another time.
func expectNewProgram(t *testing.T, name string, call func() (impl.Program, bool)) {
	t.Helper()
	result, ok := call()
	if !ok {
		t.Fatalf("%s returned false", name)
	}
	want := copyOfProgram(result)
	for i, arrow := range result.Arrows {
		for k := range arrow.Label[:cap(arrow.Label)] {
			arrow.Label[:cap(arrow.Label)][k] = impl.Term{Times: -8 - i}
		}
		for k := range want.Arrows[i].Label {
			want.Arrows[i].Label[k] = impl.Term{Times: -8 - i}
		}
		if !sameProgram(result, want) {
			t.Fatalf("%s: labels share memory: %v", name, result)
		}
	}
	first, _ := call()
	want = copyOfProgram(first)
	second, _ := call()
	overwriteProgram(first)
	third, _ := call()
	if !sameProgram(second, want) || !sameProgram(third, want) {
		t.Errorf("%s: another result changed: %v, %v", name, second, third)
	}
}

func TestProgramsShareNoMemory(t *testing.T) {
	at := point{2, 3, 4}
	g := spaciousProgram(program(t, 5, 3, "0 1 x;1 2 y+1;0 2 z;0 1 0"))
	h := spaciousProgram(program(t, 5, 2, "0 1 x+2y+3z+4;0 1 1"))
	none, one := spaciousProgram(impl.Program{Nodes: 2}), spaciousProgram(program(t, 5, 2, "0 1 x+1"))
	same := copyOfProgram(h)
	// All labels are the same memory, and the arrows have room for more.
	for i := range same.Arrows {
		same.Arrows[i].Label = h.Arrows[0].Label
	}
	arguments := []impl.Program{g, h, none, one, same}
	var before []impl.Program
	for _, argument := range arguments {
		before = append(before, wholeProgram(argument))
	}
	for _, first := range arguments {
		expectNewPolys(t, "PathsPoly", func() (impl.Poly, bool) { return impl.PathsPoly(5, first) })
		expectNewMatrix(t, "MatrixAt", func() (impl.Matrix, bool) { return impl.MatrixAt(5, first, at) })
		impl.ProgramValid(5, first)
		impl.PathsAt(5, first, at)
		impl.CountPaths(5, first)
		impl.DetPaths(5, first, at)
		for _, second := range arguments {
			expectNewProgram(t, "ChainPrograms", func() (impl.Program, bool) { return impl.ChainPrograms(5, first, second) })
			expectNewProgram(t, "BesidePrograms", func() (impl.Program, bool) { return impl.BesidePrograms(5, first, second) })
		}
	}
	for i, argument := range arguments {
		if !sameProgram(wholeProgram(argument), before[i]) {
			t.Errorf("an argument has changed: %v, where it was %v", wholeProgram(argument), before[i])
		}
	}
	expectPaths(t, 5, same)
	expectPathsAt(t, 5, same, at)
}

// Nil and empty slices are the same.
func TestEmptyArrowsAndLabels(t *testing.T) {
	for _, arrows := range [][]impl.Arrow{nil, {}, {{From: 0, To: 1}}, {{From: 0, To: 1, Label: impl.Poly{}}}} {
		g := impl.Program{Nodes: 2, Arrows: arrows}
		expectPaths(t, 5, g)
		expectPathsAt(t, 5, g, point{1, 2, 3})
		expectChained(t, 5, g, g)
		expectBeside(t, 5, g, g)
	}
}

// Calls at the same time have the results that each one has alone.
func TestPathsAtTheSameTime(t *testing.T) {
	shared := program(t, 5, 5, "3 4 x+1;2 4 y;2 3 z+2;1 4 3;1 3 x+y;1 2 z;0 4 2x;0 3 y+3;0 2 x+z;0 1 4")
	d := draw(117)
	var calls sync.WaitGroup
	for n := range 40 {
		p := primes[n%len(primes)]
		g := d.program(p, 2+n%4, 10)
		at, other := d.point(p), d.point(5)
		calls.Go(func() {
			expectPaths(t, p, g)
			expectPathsAt(t, p, g, at)
			expectPaths(t, 5, shared)
			expectPathsAt(t, 5, shared, other)
		})
	}
	calls.Wait()
}

// expectAllEnded checks that calls leave no goroutine behind.
func expectAllEnded(t *testing.T, call func()) {
	t.Helper()
	before := runtime.NumGoroutine()
	call()
	// A goroutine that has been joined may need a moment to end.
	for range 100 {
		if runtime.NumGoroutine() <= before {
			return
		}
		time.Sleep(10 * time.Millisecond)
	}
	t.Errorf("there are %d goroutines, where there were %d", runtime.NumGoroutine(), before)
}

// No call leaves a goroutine behind, also where nothing arrives at a node.
func TestNodesAreJoined(t *testing.T) {
	expectAllEnded(t, func() {
		eachProgram(118, func(d *draw, p int, g impl.Program) {
			impl.PathsPoly(p, g)
			impl.PathsAt(p, g, d.point(p))
			impl.CountPaths(p, g)
		})
	})
}
