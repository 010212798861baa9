package tests

import (
	"maps"
	"math"
	"math/big"
	"slices"
	"strconv"
	"sync"
	"testing"

	"loop.example/polycircuits/impl"
)

func degreeOf(k powers) int { return k[0] + k[1] + k[2] }

// only returns the terms whose degree is one of those that are so.
func (f plain) only(isSo func(degree int) bool) plain {
	result := plain{}
	for k, n := range f {
		if isSo(degreeOf(k)) {
			result[k] = n
		}
	}
	return result
}

func (f plain) upTo(k int) plain {
	return f.only(func(degree int) bool { return degree <= k })
}

func (f plain) part(k int) plain {
	return f.only(func(degree int) bool { return degree == k })
}

// reduced returns the terms that are left over a field, with any exponents.
func (f plain) reduced(p int) plain {
	result := plain{}
	for k, n := range f {
		if n = remainder(p, n); n != 0 {
			result[k] = n
		}
	}
	return result
}

// unlimited returns the polynomial of a gate, with any terms and exponents.
func unlimited(p int, c impl.Circuit, i int) plain {
	known := map[int]plain{}
	for _, j := range usedBy(c, i) {
		switch g := c[j]; g.Kind {
		case impl.GateInput:
			var k powers
			k[g.A] = 1
			known[j] = plain{k: 1}
		case impl.GateConst:
			known[j] = plain{powers{}: g.A}
		case impl.GateSum:
			known[j] = known[g.A].plus(known[g.B])
		case impl.GateProduct:
			known[j] = known[g.A].times(known[g.B])
		}
		known[j] = known[j].reduced(p)
	}
	return known[i]
}

// A sharing is the texts of gates, none of them twice, and the number of each,
// as a text.
type sharing struct {
	gates   []string
	numbers map[string]string
}

func (s *sharing) put(gate string) string {
	if s.numbers[gate] == "" {
		s.numbers[gate] = strconv.Itoa(len(s.gates))
		s.gates = append(s.gates, gate)
	}
	return s.numbers[gate]
}

func (s *sharing) sum(a string, b string) string {
	if a == "" || b == "" {
		return a + b
	}
	return s.put("+" + a + " " + b)
}

func (s *sharing) product(a string, b string) string {
	if a == "" || b == "" {
		return ""
	}
	return s.put("*" + a + " " + b)
}

// parts returns the numbers of the parts of a gate by their degrees, as texts.
func (s *sharing) parts(g impl.Gate, before []map[int]string, k int) map[int]string {
	parts := map[int]string{}
	for degree := 0; degree <= k; degree++ {
		switch {
		case g.Kind == impl.GateInput && degree == 1:
			parts[1] = s.put("xyz"[g.A : g.A+1])
		case g.Kind == impl.GateConst && degree == 0 && g.A > 0:
			parts[0] = s.put(strconv.Itoa(g.A))
		case g.Kind == impl.GateSum:
			parts[degree] = s.sum(before[g.A][degree], before[g.B][degree])
		case g.Kind == impl.GateProduct:
			for i, j := 0, degree; j >= 0; i, j = i+1, j-1 {
				product := s.product(before[g.A][i], before[g.B][j])
				parts[degree] = s.sum(parts[degree], product)
			}
		}
	}
	return parts
}

// partTexts returns all gates for the parts up to a degree, and the place of
// the part of this degree of the result, -1 for nothing.
func partTexts(c impl.Circuit, k int) ([]string, int) {
	s := sharing{numbers: map[string]string{}}
	var parts []map[int]string
	for _, g := range c {
		parts = append(parts, s.parts(g, parts, k))
	}
	return s.gates, placeOf(parts[len(c)-1][k])
}

// expectPart checks a circuit for a part gate for gate against texts, or that
// there is none if those up to the result are too many.
func expectPart(t *testing.T, p int, c impl.Circuit, k int) bool {
	t.Helper()
	texts, end := partTexts(c, k)
	got, ok := impl.PartCircuit(p, c, k)
	return expectUpTo(t, "PartCircuit of degree "+strconv.Itoa(k)+" of "+impl.FormatCircuit(p, c), p, got, ok, texts, end)
}

// expectPartsAt checks the values of parts, for each greatest degree, against
// the first of a list, behind which there are zeros.
func expectPartsAt(t *testing.T, p int, c impl.Circuit, at point, list []int) {
	t.Helper()
	want := append(slices.Clone(list), make([]int, 10)...)
	for k := range 10 {
		if got := impl.PartsAt(p, c, k, at); !slices.Equal(got, want[:k+1]) {
			t.Errorf("PartsAt(%d, %v, %d, %v) = %v, want %v", p, c, k, at, got, want[:k+1])
		}
	}
}

// partValues returns the values of the parts of a gate, of all degrees, as
// those of the whole tree above it.
func partValues(p int, c impl.Circuit, i int, at point) []int {
	g := c[i]
	switch g.Kind {
	case impl.GateInput:
		return []int{0, at[g.A]}
	case impl.GateConst:
		return []int{g.A}
	}
	first, second := partValues(p, c, g.A, at), partValues(p, c, g.B, at)
	list := make([]int, len(first)+len(second))
	if g.Kind == impl.GateSum {
		for degree := range list {
			for _, part := range [][]int{first, second} {
				if degree < len(part) {
					list[degree] = (list[degree] + part[degree]) % p
				}
			}
		}
		return list[:max(len(first), len(second))]
	}
	for m, a := range first {
		for n, b := range second {
			list[m+n] = (list[m+n] + a*b) % p
		}
	}
	return list[:len(first)+len(second)-1]
}

// partedCircuits returns circuits of many lengths, of which some have parts of
// several degrees.
func (d *draw) partedCircuits(p int, greatest int) []impl.Circuit {
	list := d.drawnCircuits(p, greatest)
	for range 150 {
		c := impl.Circuit{unknownGate(0), constGate(1 + d.below(p-1)), sumGate(0, 1), unknownGate(1), constGate(d.below(p)), unknownGate(2)}
		for n := range 1 + d.below(greatest-len(c)) {
			g := sumGate(d.below(len(c)), 4+n+d.below(2))
			if d.below(2) == 0 {
				g.A, g.B = g.B, g.A
			}
			if d.below(3) == 0 {
				g.Kind = impl.GateProduct
			}
			c = append(c, g)
		}
		list = append(list, c)
	}
	return list
}

func TestIsHomogeneous(t *testing.T) {
	known := map[string]bool{
		"0": true, "1": true, "4": true, "x": true, "x9y9z9": true,
		"x+y": true, "x+y+z": true, "x2+3yz": true, "x9+x8y+y9+y4z5": true, "x9z+xy9+y9z": true,
		"x+1": false, "x2+y": false, "x2+x": false, "x2+yz+1": false, "x9+y8": false, "x9y9z9+x9y9z8": false, "x2+xy+xz+y2+yz+z": false, "x+y2+z2": false, "x2+y+z2": false,
	}
	for text, want := range known {
		if got := impl.IsHomogeneous(5, read(t, 5, text)); got != want {
			t.Errorf("IsHomogeneous(5, %s) = %v", text, got)
		}
	}
	d := draw(70)
	for _, p := range primes {
		for n := range 200 {
			f := d.poly(p, n%7, 1+d.below(3))
			degrees := map[int]bool{}
			for _, term := range f {
				degrees[degreeOf(term.Powers)] = true
			}
			if got := impl.IsHomogeneous(p, f); got != (len(degrees) < 2) {
				t.Errorf("IsHomogeneous(%d, %v) = %v", p, f, got)
			}
		}
	}
}

// The parts of all degrees are of one degree each, and make the polynomial.
func TestPartsMakeThePolynomial(t *testing.T) {
	d := draw(71)
	for _, p := range primes {
		for _, f := range d.drawnPolys(p) {
			var sum impl.Poly
			for k := range 28 {
				part, ok := impl.PartPoly(p, f, k)
				if !ok || !impl.IsHomogeneous(p, part) {
					t.Errorf("the part %d of %v is %v, %v", k, f, part, ok)
				}
				sum, _ = impl.AddPoly(p, sum, part)
				got, ok := impl.CutPoly(p, f, k)
				expectPoly(t, "CutPoly", got, ok, sum)
			}
			expectPoly(t, "the sum of all parts", sum, true, f)
		}
	}
}

var allDegrees = []int{math.MinInt, -10, -2, -1, 0, 1, 2, 3, 4, 5, 8, 9, 10, 14, 17, 18, 19, 25, 26, 27, 28, 53, 54, 55, math.MaxInt}

func TestCutPoly(t *testing.T) {
	d := draw(72)
	for _, p := range primes {
		for n := range 61 {
			f := d.poly(p, n, 9)
			for _, k := range allDegrees {
				got, ok := impl.CutPoly(p, f, k)
				expectPlain(t, "CutPoly", p, got, ok, plainOf(f).upTo(k))
			}
		}
		for _, k := range allDegrees {
			got, ok := impl.CutPoly(p, nil, k)
			expectPoly(t, "CutPoly of 0", got, ok, nil)
		}
		got, ok := impl.CutPoly(p, first(60), 27)
		expectPoly(t, "CutPoly of 60 terms", got, ok, first(60))
	}
	for k, want := range []string{"3", "2x+3", "2x+z2+3", "x2y+2x+z2+3", "x2y+2x+z2+3"} {
		got, ok := impl.CutPoly(5, read(t, 5, "x2y+2x+z2+3"), k)
		expectPoly(t, "CutPoly", got, ok, read(t, 5, want))
	}
}

func TestMulCut(t *testing.T) {
	d := draw(73)
	for _, p := range primes {
		whole, fit := 0, 0
		for n := range 400 {
			greatest := 1 + d.below(9)
			f, g := d.poly(p, 5+d.below(20), greatest), d.poly(p, 5+d.below(20), greatest)
			k := allDegrees[n%len(allDegrees)]
			product := plainOf(f).times(plainOf(g))
			got, ok := impl.MulCut(p, f, g, k)
			expectPlain(t, "MulCut", p, got, ok, product.upTo(k))
			if _, isPoly := product.over(p); isPoly {
				whole++
			} else if ok && len(got) > 0 {
				fit++
			}
		}
		if whole < 50 || fit < 20 {
			t.Errorf("over the field of %d, %d products are polynomials, and %d only when they are cut", p, whole, fit)
		}
	}
	known := []struct {
		f, g string
		k    int
		want string
	}{
		{"x2y+2x+3", "x2y+2x+3", 1, "2x+4"},
		{"x2y+2x+3", "x2y+2x+3", 0, "4"},
		{"x2y+2x+3", "x2y+2x+3", -1, "0"},
		{"x2y+2x+3", "x2y+2x+3", 2, "4x2+2x+4"},
		{"x2y+2x+3", "x2y+2x+3", 3, "x2y+4x2+2x+4"},
		{"x+1", "x+4", 1, "4"},
		{"0", "x9", 60, "0"},
		{"x9", "0", 60, "0"},
		{"1", "4", 0, "4"},
		{"2", "x", 0, "0"},
		// Exponents that are too great in the whole product.
		{"x9+1", "x9+2x", 5, "2x"},
		{"x9+1", "x9+2x", 9, "x9+2x"},
		{"x9+1", "x9+2x", 10, ""},
		{"x9", "x", 9, "0"},
		{"x9", "x", 10, ""},
		{"y5", "y5", 9, "0"},
		{"y5", "y5", 10, ""},
		{"z9+z", "z", 9, "z2"},
		{"x9y9z9", "x9y9z9", 53, "0"},
		{"x9y9z9", "x9y9z9", 54, ""},
		{"x9y9z9", "x9y9z9", math.MaxInt, ""},
		{"x9y9z9", "x9y9z9", math.MinInt, "0"},
		{"x9y9z9", "1", 27, "x9y9z9"},
		{"x5y5+xy", "x4y4", 18, "x9y9+x5y5"},
		// They are no terms of the product if they fall away.
		{"x6+x5", "x5+4x4", 10, "4x9"},
		{"x6+x5", "x5+4x4", 11, ""},
	}
	for _, c := range known {
		got, ok := impl.MulCut(5, read(t, 5, c.f), read(t, 5, c.g), c.k)
		name := "MulCut of " + c.f + " and " + c.g
		if c.want == "" {
			expectNone(t, name, got, ok)
		} else {
			expectPoly(t, name, got, ok, read(t, 5, c.want))
		}
	}
}

// lowest returns the sum of the first n products of y and z, in the order of
// their degrees: 28 of them have a degree up to 6, and 36 up to 7.
func lowest(n int) impl.Poly {
	sum := plain{}
	for degree := 0; len(sum) < n; degree++ {
		for y := 0; y <= degree && len(sum) < n; y++ {
			sum[powers{0, y, degree - y}] = 1
		}
	}
	f, _ := sum.over(2)
	return f
}

func TestMulCutWith60Terms(t *testing.T) {
	for _, p := range primes {
		x := read(t, p, "x+1")
		for _, c := range []struct{ n, k, terms int }{{31, 7, 59}, {32, 7, 60}, {33, 7, 61}, {33, 6, 49}, {30, 8, 60}, {31, 8, 62}, {36, 7, 64}} {
			want := plainOf(x).times(plainOf(lowest(c.n))).upTo(c.k)
			if len(want) != c.terms {
				t.Fatalf("%d terms are cut to %d, not to %d", c.n, len(want), c.terms)
			}
			got, ok := impl.MulCut(p, x, lowest(c.n), c.k)
			expectPlain(t, "MulCut", p, got, ok, want)
			got, ok = impl.MulCut(p, lowest(c.n), x, c.k)
			expectPlain(t, "MulCut", p, got, ok, want)
			if ok != (c.terms <= 60) {
				t.Errorf("MulCut with %d terms is tested as %v", c.terms, ok)
			}
		}
	}
	// Most first products of a square over the field of 2 fall away.
	d := draw(74)
	for range 20 {
		f := d.poly(2, 60, 4)
		for _, k := range []int{0, 7, 12, 16, 24} {
			got, ok := impl.MulCut(2, f, f, k)
			want := plain{}
			for _, term := range f {
				want[powers{2 * term.Powers[0], 2 * term.Powers[1], 2 * term.Powers[2]}] = 1
			}
			expectPlain(t, "MulCut of f and f over 2", 2, got, ok, want.upTo(k))
		}
	}
}

// A part of a product is the sum of the products of parts whose degrees make its degree.
func TestPartsOfProducts(t *testing.T) {
	d := draw(75)
	for range 200 {
		p := primes[d.below(len(primes))]
		f, g, k := d.poly(p, d.below(8), 3), d.poly(p, d.below(8), 3), d.below(15)
		sum := plain{}
		for i := range k + 1 {
			sum = sum.plus(plainOf(f).part(i).times(plainOf(g).part(k - i)))
		}
		product, ok := impl.MulCut(p, f, g, k)
		if !ok {
			t.Fatalf("MulCut(%d, %v, %v, %d) = %v, false", p, f, g, k, product)
		}
		part, ok := impl.PartPoly(p, product, k)
		expectPlain(t, "PartPoly of MulCut", p, part, ok, sum)
	}
}

// shiftedStepByStep is the way to ShiftPoly that the document tells.
func shiftedStepByStep(p int, f impl.Poly, by point) (impl.Poly, bool) {
	ok := true
	for v := range 3 {
		g, _ := plainOf(line(v, 1, 1)).plus(plain{powers{}: by[v]}).over(p)
		if f, ok = putStepByStep(p, f, v, g); !ok {
			return nil, false
		}
	}
	return f, true
}

func TestShiftPoly(t *testing.T) {
	d := draw(76)
	for _, p := range primes {
		shifted := 0
		for n := range 200 {
			f, by := d.poly(p, n%8, 1+d.below(9)), d.point(p)
			want, isPoly := shiftedStepByStep(p, f, by)
			got, ok := impl.ShiftPoly(p, f, by)
			if !isPoly {
				expectNone(t, "ShiftPoly", got, ok)
				continue
			}
			shifted++
			expectPoly(t, "ShiftPoly", got, ok, want)
			for range 10 {
				at := d.point(p)
				moved := point{(at[0] + by[0]) % p, (at[1] + by[1]) % p, (at[2] + by[2]) % p}
				if impl.EvalPoly(p, got, at) != plainOf(f).at(p, moved) {
					t.Errorf("ShiftPoly(%d, %v, %v) has another value at %v", p, f, by, at)
				}
			}
			if back, ok := impl.ShiftPoly(p, got, point{(p - by[0]) % p, (p - by[1]) % p, (p - by[2]) % p}); ok {
				expectPoly(t, "ShiftPoly there and back", back, ok, f)
			}
		}
		if shifted < 50 || shifted == 200 {
			t.Errorf("over the field of %d, %d polynomials were shifted", p, shifted)
		}
		for _, f := range d.drawnPolys(p) {
			got, ok := impl.ShiftPoly(p, f, point{})
			expectPoly(t, "ShiftPoly by zeros", got, ok, f)
		}
		got, ok := impl.ShiftPoly(p, nil, point{p - 1, 1, p - 1})
		expectPoly(t, "ShiftPoly of 0", got, ok, nil)
		got, ok = impl.ShiftPoly(p, impl.Poly{{Times: p - 1}}, point{p - 1, 1, p - 1})
		expectPoly(t, "ShiftPoly of an element", got, ok, impl.Poly{{Times: p - 1}})
	}
	known := []struct {
		f    string
		by   point
		want string
	}{
		{"x", point{3, 1, 2}, "x+3"},
		{"y", point{3, 1, 2}, "y+1"},
		{"z", point{3, 1, 2}, "z+2"},
		{"x2", point{1, 4, 0}, "x2+2x+1"},
		{"xy", point{1, 2, 3}, "xy+2x+y+2"},
		{"yz", point{1, 0, 3}, "yz+3y"},
		{"x5", point{2, 0, 0}, "x5+2"},
		{"x+4y", point{3, 3, 3}, "x+4y"},
		{"x+4y", point{3, 2, 3}, "x+4y+1"},
		{"x2+z2", point{0, 2, 1}, "x2+z2+2z+1"},
		{"x9", point{4, 0, 0}, "x9+x8+x7+x6+x5+4x4+4x3+4x2+4x+4"},
	}
	for _, c := range known {
		got, ok := impl.ShiftPoly(5, read(t, 5, c.f), c.by)
		expectPoly(t, "ShiftPoly "+c.f, got, ok, read(t, 5, c.want))
	}
}

// powerOf returns the power of an unknown plus a.
func powerOf(p int, v int, a int, exponent int) plain {
	product := plain{powers{}: 1}
	for range exponent {
		product = product.times(plainOf(line(v, 1, 1)).plus(plain{powers{}: a})).reduced(p)
	}
	return product
}

func TestShiftsWith60Terms(t *testing.T) {
	for _, p := range []int{11, 13} {
		x9 := plainOf(line(0, 9, 9))
		polyOf := func(f plain) impl.Poly {
			t.Helper()
			g, ok := f.over(p)
			if !ok {
				t.Fatalf("%v is no polynomial", f)
			}
			return g
		}
		sixty := x9.times(plainOf(line(1, 1, 6)))
		got, ok := impl.ShiftPoly(p, polyOf(sixty), point{1, 0, 0})
		if !ok || len(got) != 60 {
			t.Errorf("ShiftPoly with 60 terms = %v, %v", got, ok)
		}
		for _, more := range []powers{{}, {0, 0, 1}, {1, 0, 0}, {9, 9, 9}} {
			got, ok = impl.ShiftPoly(p, polyOf(sixty.plus(plain{more: 1})), point{1, 0, 0})
			expectNone(t, "ShiftPoly with more terms", got, ok)
		}
		// The power 6 of y minus 1 has only one term when y is shifted, but x is
		// shifted first, which makes 70 terms.
		f := polyOf(x9.times(powerOf(p, 1, -1, 6)))
		got, ok = impl.ShiftPoly(p, f, point{0, 1, 0})
		expectPoly(t, "ShiftPoly of y alone", got, ok, read(t, p, "x9y6"))
		got, ok = impl.ShiftPoly(p, f, point{1, 1, 0})
		expectNone(t, "ShiftPoly with 70 terms on the way", got, ok)
		// With x and y for each other, there are never more terms than at first.
		f = polyOf(powerOf(p, 0, -1, 6).times(plainOf(line(1, 9, 9))))
		got, ok = impl.ShiftPoly(p, f, point{1, 1, 0})
		expectPlain(t, "ShiftPoly with 10 terms", p, got, ok, plainOf(line(0, 6, 6)).times(powerOf(p, 1, 1, 9)))
		f = polyOf(powerOf(p, 1, -1, 6).times(plainOf(line(2, 9, 9))))
		got, ok = impl.ShiftPoly(p, f, point{5, 1, 1})
		expectPlain(t, "ShiftPoly of y before z", p, got, ok, plainOf(line(1, 6, 6)).times(powerOf(p, 2, 1, 9)))
		f = polyOf(powerOf(p, 2, -1, 6).times(plainOf(line(1, 9, 9))))
		got, ok = impl.ShiftPoly(p, f, point{5, 1, 1})
		expectNone(t, "ShiftPoly of z after y", got, ok)
	}
}

func TestEulerPoly(t *testing.T) {
	d := draw(77)
	for _, p := range primes {
		for _, f := range d.drawnPolys(p) {
			want, euler := plain{}, plain{}
			for _, term := range f {
				want[term.Powers] = term.Times * degreeOf(term.Powers)
			}
			for v := range 3 {
				euler = euler.plus(plainOf(line(v, 1, 1)).times(derivedPlain(f, v)))
			}
			got, ok := impl.EulerPoly(p, f)
			expectPlain(t, "EulerPoly", p, got, ok, want)
			expectPlain(t, "the unknowns times the derivatives", p, got, ok, euler)
		}
		for n := range 10 {
			for v := range 3 {
				got, ok := impl.EulerPoly(p, line(v, n, n))
				expectPlain(t, "EulerPoly of a power", p, got, ok, plain{line(v, n, n)[0].Powers: n})
			}
		}
	}
	for f, want := range map[string]string{"x2y+2x+3": "3x2y+2x", "x5+4": "0", "x3y2+x2y2z2+4z": "x2y2z2+4z", "x9y9z9": "2x9y9z9", "3": "0", "0": "0"} {
		got, ok := impl.EulerPoly(5, read(t, 5, f))
		expectPoly(t, "EulerPoly "+f, got, ok, read(t, 5, want))
	}
}

func TestScaleUnknowns(t *testing.T) {
	d := draw(78)
	for _, p := range primes {
		for _, f := range d.drawnPolys(p) {
			for a := range p {
				want := plain{}
				for _, term := range f {
					want[term.Powers] = term.Times * powerBySquares(p, a, degreeOf(term.Powers))
				}
				got, ok := impl.ScaleUnknowns(p, f, a)
				expectPlain(t, "ScaleUnknowns", p, got, ok, want)
				at := d.point(p)
				if b := impl.EvalPoly(p, got, at); b != plainOf(f).at(p, point{a * at[0], a * at[1], a * at[2]}) {
					t.Errorf("ScaleUnknowns(%d, %v, %d) is %d at %v", p, f, a, b, at)
				}
			}
			got, ok := impl.ScaleUnknowns(p, f, 1)
			expectPoly(t, "ScaleUnknowns by 1", got, ok, f)
			got, ok = impl.ScaleUnknowns(p, f, 0)
			expectPlain(t, "ScaleUnknowns by 0", p, got, ok, plainOf(f).part(0))
			a, b := d.below(p), d.below(p)
			once, _ := impl.ScaleUnknowns(p, f, a)
			twice, isTwice := impl.ScaleUnknowns(p, once, b)
			both, _ := impl.ScaleUnknowns(p, f, a*b%p)
			expectPoly(t, "ScaleUnknowns twice", twice, isTwice, both)
		}
	}
	for a, want := range []string{"3", "x2y+2x+3", "3x2y+4x+3", "2x2y+x+3", "4x2y+3x+3"} {
		got, ok := impl.ScaleUnknowns(5, read(t, 5, "x2y+2x+3"), a)
		expectPoly(t, "ScaleUnknowns", got, ok, read(t, 5, want))
	}
}

func TestPartCircuit(t *testing.T) {
	// The parts of the degrees 0, 1 and so on; all others are nothing.
	known := []struct {
		c     string
		parts []string
	}{
		{"x;2;+0 1;*2 2", []string{"2;*0 0", "x;2;*1 0;*0 1;+2 3", "x;*0 0"}},
		// Unknowns and elements.
		{"x", []string{"0", "x"}},
		{"y", []string{"0", "y"}},
		{"z", []string{"0", "z"}},
		{"0", []string{"0"}},
		{"1", []string{"1"}},
		{"4", []string{"4"}},
		{"x;y;3", []string{"3"}},
		{"3;0;y", []string{"0", "y"}},
		// Sums of which one part is nothing, or both are.
		{"x;3;+0 1", []string{"3", "x"}},
		{"x;3;+1 0", []string{"3", "x"}},
		{"x;0;+0 1", []string{"0", "x"}},
		{"0;0;+0 1", []string{"0"}},
		{"2;0;+0 1", []string{"2"}},
		{"x;*0 0;+0 1;+2 1", []string{"0", "x", "x;*0 0;+1 1"}},
		{"x;y;+0 1", []string{"0", "x;y;+0 1"}},
		{"x;y;+1 0", []string{"0", "x;y;+1 0"}},
		{"2;4;+1 0;+2 0", []string{"2;4;+1 0;+2 0"}},
		// What is 0 without being nothing stays.
		{"1;4;+0 1", []string{"1;4;+0 1"}},
		{"1;4;+0 1;x;*2 3", []string{"0", "1;4;+0 1;x;*2 3"}},
		// Products of which one part is nothing.
		{"x;0;*0 1", []string{"0"}},
		{"x;3;*0 1", []string{"0", "x;3;*0 1"}},
		{"x;3;*1 0", []string{"0", "x;3;*1 0"}},
		{"2;3;*1 0", []string{"2;3;*1 0"}},
		{"x;y;*1 0", []string{"0", "0", "x;y;*1 0"}},
		{"x;*0 0;*1 1;*2 2", []string{"0", "0", "0", "0", "0", "0", "0", "0", "x;*0 0;*1 1;*2 2"}},
		{"x;1;+0 1;y;2;+3 4;*2 5", []string{"1;2;*0 1", "x;1;y;2;*1 2;*0 3;+4 5", "x;y;*0 1"}},
		{"x;1;+0 1;y;2;+3 4;*5 2", []string{"1;2;*1 0", "x;1;y;2;*3 0;*2 1;+4 5", "x;y;*1 0"}},
		{"x;1;+0 1;*2 2;*3 3", []string{
			"1;*0 0;*1 1",
			"x;1;*1 1;*1 0;*0 1;+3 4;*2 5;*5 2;+6 7",
			"x;1;*1 1;*1 0;*0 1;+3 4;*0 0;*2 6;*5 5;+7 8;*6 2;+9 10",
			"x;1;*1 0;*0 1;+2 3;*0 0;*4 5;*5 4;+6 7",
			"x;*0 0;*1 1",
		}},
		// Equal gates are taken instead.
		{"x;x;+0 1", []string{"0", "x;+0 0"}},
		{"y;y;*0 1", []string{"0", "0", "y;*0 0"}},
		{"3;3;*1 0", []string{"3;*0 0"}},
		{"x;y;+0 1;+0 1;*2 3", []string{"0", "0", "x;y;+0 1;*2 2"}},
		{"x;y;+0 1;+1 0;*2 3", []string{"0", "0", "x;y;+0 1;+1 0;*2 3"}},
		{"x;y;*0 1;*0 1;+2 3", []string{"0", "0", "x;y;*0 1;+2 2"}},
		{"x;1;*0 1;+0 1;*3 3", []string{"1;*0 0", "x;1;*0 1;*1 0;+3 2", "x;*0 0"}},
		{"x;y;z;+0 1;*2 2;+0 1", []string{"0", "x;y;+0 1"}},
	}
	for _, k := range known {
		c := readCircuit(t, 5, k.c)
		for degree := range 10 {
			want := "0"
			if degree < len(k.parts) {
				want = k.parts[degree]
			}
			got, ok := impl.PartCircuit(5, c, degree)
			if impl.FormatCircuit(5, got) != want || !ok {
				t.Errorf("PartCircuit(5, %s, %d) = %s, %v, want %s", k.c, degree, impl.FormatCircuit(5, got), ok, want)
			}
			expectPart(t, 5, c, degree)
		}
	}
}

func TestPartCircuitsOfDrawnCircuits(t *testing.T) {
	d := draw(79)
	for _, p := range primes {
		fit, something := 0, 0
		for _, c := range d.partedCircuits(p, 59) {
			for k := range 10 {
				if expectPart(t, p, c, k) {
					fit++
				}
				if _, end := partTexts(c, k); end >= 0 {
					something++
				}
			}
		}
		if fit < 1500 || fit > 2700 || something < 900 || something > 2000 {
			t.Errorf("over the field of %d, %d of the parts have circuits, and %d are something", p, fit, something)
		}
	}
}

// What the circuit for a part computes is this part of what the whole one
// computes, also if that is no polynomial within the limits.
func TestPartCircuitsComputeParts(t *testing.T) {
	d := draw(80)
	for _, p := range primes {
		compared, great, polys := 0, 0, 0
		list := d.partedCircuits(p, 24)
		// The power 12 of x plus 1, and the power 6 of the sum of all unknowns and 1.
		list = append(list, readCircuit(t, p, "x;1;+0 1;*2 2;*3 3;*4 4;*5 4"), readCircuit(t, p, "x;y;+0 1;z;+2 3;1;+4 5;*6 6;*7 7;*8 7"))
		for _, c := range list {
			if formalDegree(c) > 14 {
				continue
			}
			last := len(c) - 1
			whole := unlimited(p, c, last)
			f, isPoly := expanded(p, c, last)
			for k := range 10 {
				part, ok := impl.PartCircuit(p, c, k)
				if !ok {
					continue
				}
				got := unlimited(p, part, len(part)-1)
				if !maps.Equal(got, whole.part(k)) {
					t.Errorf("the part of degree %d of %v over %d computes %v, not %v", k, c, p, got, whole.part(k))
				}
				compared += len(got)
				if !isPoly {
					great++
				}
				if result, ok := impl.PolyOfCircuit(p, part); ok && isPoly {
					polys++
					want, _ := impl.PartPoly(p, f, k)
					expectPoly(t, "PolyOfCircuit of PartCircuit", result, ok, want)
				}
			}
		}
		if compared < 400 || great < 5 || polys < 2000 {
			t.Errorf("over the field of %d, %d terms of parts, %d parts of no polynomials, and %d of polynomials have been compared", p, compared, great, polys)
		}
	}
}

// doubledParts returns a circuit of x plus 1 that is doubled n times, so that
// there are 2n+2 gates for the parts of the degrees 0 and 1.
func doubledParts(n int) impl.Circuit {
	c := impl.Circuit{unknownGate(0), constGate(1), sumGate(0, 1)}
	for i := range n {
		c = append(c, sumGate(i+2, i+2))
	}
	return c
}

// behind returns a circuit with further gates behind it.
func behind(c impl.Circuit, gates ...impl.Gate) impl.Circuit {
	return append(slices.Clone(c), gates...)
}

func TestPartCircuitsWith60Gates(t *testing.T) {
	y := func(c impl.Circuit) impl.Circuit { return withSpare(c, 0, unknownGate(1)) }
	limits := []struct {
		c   impl.Circuit
		k   int
		end int
	}{
		{make(impl.Circuit, 60), 1, 0}, {make(impl.Circuit, 60), 0, -1}, {make(impl.Circuit, 60), 9, -1},
		{chain(impl.GateSum, 59), 1, 59}, {chain(impl.GateSum, 59), 0, -1}, {chain(impl.GateSum, 59), 9, -1},
		{chain(impl.GateProduct, 59), 1, -1}, {chain(impl.GateProduct, 59), 2, -1}, {chain(impl.GateProduct, 59), 9, -1},
		{doubledParts(57), 0, 57}, {doubledParts(28), 1, 57}, {doubledParts(29), 1, 59}, {doubledParts(30), 1, 61}, {doubledParts(57), 1, 115},
		// Gates that the result does not need count as well.
		{y(doubledParts(28)), 1, 58}, {y(doubledParts(29)), 1, 60}, {y(doubledParts(29)), 0, 29}, {y(doubledParts(56)), 0, 56},
		{behind(doubledParts(28), unknownGate(1)), 1, 58}, {behind(doubledParts(29), unknownGate(1)), 1, 60}, {behind(doubledParts(29), unknownGate(1)), 0, -1},
		{behind(doubledParts(28), unknownGate(1), unknownGate(2)), 1, 59}, {behind(doubledParts(28), unknownGate(1), unknownGate(1)), 1, 58},
		// Gates behind the result do not count, however many they are.
		{behind(doubledParts(50), unknownGate(0)), 1, 0}, {behind(doubledParts(50), constGate(1)), 0, 0}, {behind(doubledParts(50), constGate(1)), 1, -1},
		{behind(doubledParts(50), sumGate(30, 30)), 1, 59}, {behind(doubledParts(50), sumGate(31, 31)), 1, 61}, {behind(y(doubledParts(50)), sumGate(31, 31)), 1, 60}, {behind(y(doubledParts(50)), sumGate(30, 30)), 1, 58},
		{behind(doubledParts(50), constGate(0), sumGate(31, 53)), 1, 59}, {behind(doubledParts(50), constGate(0), sumGate(53, 32)), 1, 61}, {behind(doubledParts(50), constGate(0), productGate(31, 53)), 1, -1},
		// The parts of the powers 4, 8 and 16 of x plus 1.
		{readCircuit(t, 2, "x;1;+0 1;*2 2;*3 3"), 4, 19}, {readCircuit(t, 2, "x;1;+0 1;*2 2;*3 3"), 5, -1}, {readCircuit(t, 2, "x;1;+0 1;*2 2;*3 3;*4 4;*5 5"), 9, 156},
		{readCircuit(t, 2, "x;1;+0 1;*2 2;*3 3;*4 4"), 7, 59}, {readCircuit(t, 2, "x;1;+0 1;*2 2;*3 3;*4 4"), 8, 60}, {readCircuit(t, 2, "x;1;+0 1;*2 2;*3 3;*4 4"), 9, -1},
		{readCircuit(t, 2, "y;x;1;+1 2;*3 3;*4 4;*5 5"), 6, 57}, {readCircuit(t, 2, "y;x;1;+1 2;*3 3;*4 4;*5 5"), 7, 60},
	}
	for _, p := range primes {
		for _, k := range limits {
			if !impl.CircuitValid(p, k.c) {
				t.Fatalf("%d gates are no circuit: %v", len(k.c), k.c)
			}
			if _, end := partTexts(k.c, k.k); end != k.end {
				t.Errorf("the part of degree %d of %v is the gate %d, not %d", k.k, k.c, end, k.end)
			}
			if fits := expectPart(t, p, k.c, k.k); fits != (k.end < 60) {
				t.Errorf("PartCircuit(%d, %v, %d) is tested as %v", p, k.c, k.k, fits)
			}
		}
	}
}

func TestPartsAt(t *testing.T) {
	known := []struct {
		p    int
		c    string
		at   point
		want []int
	}{
		{5, "x;2;+0 1;*2 2", point{3, 0, 0}, []int{4, 2, 4}},
		{5, "x", point{3, 2, 1}, []int{0, 3}},
		{5, "y", point{3, 2, 1}, []int{0, 2}},
		{5, "z", point{3, 2, 1}, []int{0, 1}},
		{5, "4", point{3, 2, 1}, []int{4}},
		{5, "0", point{3, 2, 1}, nil},
		{5, "x;y;z;4", point{3, 2, 1}, []int{4}},
		{5, "1;4;+0 1", point{3, 2, 1}, nil},
		{7, "x;0;*0 1;3;+2 3;+4 0", point{6, 0, 0}, []int{3, 6}},
		{7, "x;y;*0 1;z;+2 3;6;+4 5", point{2, 3, 5}, []int{6, 5, 6}},
		{13, "x;*0 0;*1 1;*2 2", point{2, 0, 0}, []int{0, 0, 0, 0, 0, 0, 0, 0, 9}},
		{13, "x;*0 0;*1 1;*2 2;*3 0", point{2, 0, 0}, []int{0, 0, 0, 0, 0, 0, 0, 0, 0, 5}},
		// The degrees of parts are no powers that are the same at all points.
		{2, "x;*0 0;*0 1;+2 0", point{1, 0, 0}, []int{0, 1, 0, 1}},
	}
	for _, k := range known {
		expectPartsAt(t, k.p, readCircuit(t, k.p, k.c), k.at, k.want)
	}
	d := draw(81)
	for _, p := range primes {
		for _, c := range d.partedCircuits(p, 13) {
			at := d.point(p)
			list := partValues(p, c, len(c)-1, at)
			expectPartsAt(t, p, c, at, list[:min(len(list), 10)])
		}
	}
}

// The parts of the power 2^n of x minus 1 are told by binomial coefficients,
// however great the degree of the whole power is.
func TestPartsOfGreatPowers(t *testing.T) {
	for _, p := range primes {
		for _, n := range []int{1, 2, 3, 4, 5, 9, 31, 32, 56, 57} {
			c := readCircuit(t, p, "x;"+strconv.Itoa(p-1)+";+0 1")
			for i := range n {
				c = append(c, productGate(i+2, i+2))
			}
			for _, x := range []int{0, 1, p - 1, p / 2} {
				var want []int
				for degree := range min(10, 1<<n+1) {
					var times big.Int
					times.Binomial(1<<n, int64(degree)).Mod(&times, big.NewInt(int64(p)))
					power := powerBySquares(p, p-1, 1<<n-degree) * powerBySquares(p, x, degree)
					want = append(want, int(times.Int64())*power%p)
				}
				expectPartsAt(t, p, c, point{x, 0, 0}, want)
			}
		}
	}
}

// What all functions tell of the parts of a circuit has the same values.
func TestPartsAtAndPartCircuits(t *testing.T) {
	d := draw(82)
	for _, p := range primes {
		circuits, wholes := 0, 0
		for _, c := range d.partedCircuits(p, 40) {
			at := d.point(p)
			list := impl.PartsAt(p, c, 9, at)
			if len(list) != 10 {
				t.Fatalf("PartsAt(%d, %v, 9, %v) = %v", p, c, at, list)
			}
			for k := range 10 {
				part, ok := impl.PartCircuit(p, c, k)
				if !ok {
					continue
				}
				circuits++
				if values := impl.EvalGates(p, part, at); values[len(part)-1] != list[k] {
					t.Errorf("the values of PartCircuit(%d, %v, %d) at %v are %v, and PartsAt is %v", p, c, k, at, values, list)
				}
			}
			if formalDegree(c) > 9 {
				continue
			}
			// With unknowns that are multiplied by a, each part has a power of a more.
			wholes++
			for a := range p {
				sum := 0
				for k, n := range list {
					sum += n * powerBySquares(p, a, k)
				}
				moved := point{a * at[0] % p, a * at[1] % p, a * at[2] % p}
				if values := impl.EvalGates(p, c, moved); values[len(c)-1] != sum%p {
					t.Errorf("the values of %v over %d at %v are %v, and PartsAt at %v is %v", c, p, moved, values, at, list)
				}
			}
		}
		if circuits < 300 || wholes < 50 {
			t.Errorf("over the field of %d, %d circuits for parts and %d wholes have been compared", p, circuits, wholes)
		}
	}
}

// The parts of a polynomial have the values that circuits for it tell of them.
func TestPartsOfPolysAtPoints(t *testing.T) {
	d := draw(83)
	for _, p := range primes {
		for range 60 {
			f := d.poly(p, 1+d.below(5), 1+d.below(4))
			c, ok := impl.CircuitOf(p, f)
			if !ok {
				continue
			}
			at := d.point(p)
			var want []int
			for k := range 10 {
				want = append(want, plainOf(f).part(k).at(p, at))
			}
			expectPartsAt(t, p, c, at, want)
		}
	}
}

// expectNoDegrees checks all functions for an f that is no polynomial over the field of p.
func expectNoDegrees(t *testing.T, p int, f impl.Poly) {
	t.Helper()
	if impl.IsHomogeneous(p, f) {
		t.Errorf("IsHomogeneous(%d, %v) = true", p, f)
	}
	for _, k := range []int{math.MinInt, -1, 0, 1, 27, math.MaxInt} {
		got, ok := impl.CutPoly(p, f, k)
		expectNone(t, "CutPoly", got, ok)
		for _, g := range []impl.Poly{nil, {{Times: 1}}, f} {
			got, ok = impl.MulCut(p, f, g, k)
			expectNone(t, "MulCut", got, ok)
			got, ok = impl.MulCut(p, g, f, k)
			expectNone(t, "MulCut", got, ok)
		}
	}
	for _, by := range []point{{0, 0, 0}, {1, 0, 1}} {
		got, ok := impl.ShiftPoly(p, f, by)
		expectNone(t, "ShiftPoly", got, ok)
	}
	got, ok := impl.EulerPoly(p, f)
	expectNone(t, "EulerPoly", got, ok)
	for a := range 2 {
		got, ok = impl.ScaleUnknowns(p, f, a)
		expectNone(t, "ScaleUnknowns", got, ok)
	}
}

func TestDegreesOfNoPolys(t *testing.T) {
	for _, p := range primes {
		for _, f := range noPolys(p) {
			expectNoDegrees(t, p, f)
		}
	}
	for _, p := range noPrimes {
		for _, f := range []impl.Poly{nil, {}, {{Times: 1}}, {{Powers: powers{1, 0, 0}, Times: 1}, {Times: 1}}} {
			expectNoDegrees(t, p, f)
		}
	}
}

func TestShiftsAndScalesByNoElements(t *testing.T) {
	for _, p := range primes {
		for _, n := range outsideOf(p) {
			for _, f := range []impl.Poly{nil, {{Times: 1}}, line(0, 1, 1), line(2, 0, 9)} {
				for v := range 3 {
					by := point{1, 1, 1}
					by[v] = n
					got, ok := impl.ShiftPoly(p, f, by)
					expectNone(t, "ShiftPoly by no elements", got, ok)
				}
				got, ok := impl.ScaleUnknowns(p, f, n)
				expectNone(t, "ScaleUnknowns by no element", got, ok)
			}
		}
	}
}

// expectNoParts checks both functions of the parts of circuits for arguments that are not so.
func expectNoParts(t *testing.T, p int, c impl.Circuit, k int) {
	t.Helper()
	got, ok := impl.PartCircuit(p, c, k)
	expectNoCircuit(t, "PartCircuit", got, ok)
	for _, at := range []point{{0, 0, 0}, {1, 1, 1}} {
		expectNoValues(t, p, c, k, at)
	}
}

// expectNoValues checks that there are no values of parts.
func expectNoValues(t *testing.T, p int, c impl.Circuit, k int, at point) {
	t.Helper()
	if got := impl.PartsAt(p, c, k, at); len(got) != 0 {
		t.Errorf("PartsAt(%d, %v, %d, %v) = %v, want none", p, c, k, at, got)
	}
}

func TestPartsOfNoCircuits(t *testing.T) {
	for _, p := range primes {
		for _, c := range noCircuits(p) {
			for _, k := range []int{-1, 0, 1, 9, 10} {
				expectNoParts(t, p, c, k)
			}
		}
	}
	for _, p := range noPrimes {
		for _, c := range []impl.Circuit{nil, {{}}, {constGate(0)}, {constGate(1)}, {unknownGate(0), productGate(0, 0)}} {
			for _, k := range []int{0, 1, 9} {
				expectNoParts(t, p, c, k)
			}
		}
	}
}

func TestPartsOfNoDegreesAndAtNoPoints(t *testing.T) {
	for _, p := range primes {
		for _, c := range []impl.Circuit{{{}}, {constGate(0)}, {constGate(1)}, {unknownGate(0), productGate(0, 0)}, chain(impl.GateSum, 59)} {
			for _, k := range []int{math.MinInt, -10, -2, -1, 10, 11, 60, math.MaxInt} {
				expectNoParts(t, p, c, k)
			}
			for _, n := range outsideOf(p) {
				for v := range 3 {
					at := point{1, 0, 1}
					at[v] = n
					for _, k := range []int{0, 1, 9} {
						expectNoValues(t, p, c, k, at)
					}
				}
			}
		}
	}
}

func TestDegreesShareNoMemory(t *testing.T) {
	full := append(read(t, 5, "2xy+y+4"), slices.Repeat(impl.Poly{{Powers: powers{-7, -7, -7}, Times: -7}}, 3)...)
	f := full[:3]
	one := impl.Poly{{Times: 1}}
	polys := map[string]func() (impl.Poly, bool){
		"CutPoly":                func() (impl.Poly, bool) { return impl.CutPoly(5, f, 1) },
		"CutPoly of all terms":   func() (impl.Poly, bool) { return impl.CutPoly(5, f, 2) },
		"CutPoly of one term":    func() (impl.Poly, bool) { return impl.CutPoly(5, f[2:], 0) },
		"CutPoly of no term":     func() (impl.Poly, bool) { return impl.CutPoly(5, f, -1) },
		"MulCut":                 func() (impl.Poly, bool) { return impl.MulCut(5, f, f, 2) },
		"MulCut of f and 1":      func() (impl.Poly, bool) { return impl.MulCut(5, f, one, 9) },
		"MulCut of 1 and f":      func() (impl.Poly, bool) { return impl.MulCut(5, one, f, 9) },
		"ShiftPoly":              func() (impl.Poly, bool) { return impl.ShiftPoly(5, f, point{1, 2, 3}) },
		"ShiftPoly by zeros":     func() (impl.Poly, bool) { return impl.ShiftPoly(5, f, point{}) },
		"ShiftPoly of 0":         func() (impl.Poly, bool) { return impl.ShiftPoly(5, f[3:3], point{1, 2, 3}) },
		"ShiftPoly of one term":  func() (impl.Poly, bool) { return impl.ShiftPoly(5, f[2:], point{1, 2, 3}) },
		"EulerPoly":              func() (impl.Poly, bool) { return impl.EulerPoly(5, f) },
		"EulerPoly of one term":  func() (impl.Poly, bool) { return impl.EulerPoly(5, f[1:2]) },
		"ScaleUnknowns":          func() (impl.Poly, bool) { return impl.ScaleUnknowns(5, f, 3) },
		"ScaleUnknowns by 1":     func() (impl.Poly, bool) { return impl.ScaleUnknowns(5, f, 1) },
		"ScaleUnknowns of terms": func() (impl.Poly, bool) { return impl.ScaleUnknowns(5, f[1:2], 1) },
	}
	before := slices.Clone(full)
	for name, call := range polys {
		expectNewPolys(t, name, call)
	}
	impl.IsHomogeneous(5, f)
	if !slices.Equal(full, before) || one[0] != (impl.Term{Times: 1}) {
		t.Errorf("a polynomial has changed: %v, %v", full, one)
	}
	gates := behind(readCircuit(t, 5, "x;2;+0 1;*2 2"), slices.Repeat(impl.Circuit{{Kind: -7, A: -7, B: -7}}, 20)...)
	c := gates[:4]
	circuits := map[string]func() (impl.Circuit, bool){
		"PartCircuit of degree 0":   func() (impl.Circuit, bool) { return impl.PartCircuit(5, c, 0) },
		"PartCircuit of degree 1":   func() (impl.Circuit, bool) { return impl.PartCircuit(5, c, 1) },
		"PartCircuit of degree 2":   func() (impl.Circuit, bool) { return impl.PartCircuit(5, c, 2) },
		"PartCircuit of nothing":    func() (impl.Circuit, bool) { return impl.PartCircuit(5, c, 3) },
		"PartCircuit of an unknown": func() (impl.Circuit, bool) { return impl.PartCircuit(5, c[:1], 1) },
	}
	same := slices.Clone(gates)
	for name, call := range circuits {
		expectNewCircuits(t, name, call)
	}
	for k := range 10 {
		expectNewNumbers(t, "PartsAt", func() []int { return impl.PartsAt(5, c, k, point{3, 0, 0}) })
	}
	if !slices.Equal(gates, same) {
		t.Errorf("a circuit has changed: %v", gates)
	}
}

// Calls at the same time have the results that each one has alone.
func TestPartsAtTheSameTime(t *testing.T) {
	d := draw(84)
	shared := d.circuit(5, 20)
	var calls sync.WaitGroup
	for n := range 40 {
		p := primes[n%len(primes)]
		c, at := d.circuit(p, 1+d.below(12)), d.point(p)
		list := partValues(p, c, len(c)-1, at)
		calls.Go(func() {
			expectPartsAt(t, p, c, at, list[:min(len(list), 10)])
			for k := range 10 {
				expectPart(t, p, c, k)
				expectPart(t, 5, shared, k)
			}
		})
	}
	calls.Wait()
}
