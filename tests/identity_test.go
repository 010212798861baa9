package tests

import (
	"math"
	"slices"
	"sync"
	"testing"

	"loop.example/polycircuits/impl"
)

type point = [3]int

// pointsOf returns all points of a field, in their order.
func pointsOf(p int) []point {
	var list []point
	for x := range p {
		for y := range p {
			for z := range p {
				list = append(list, point{x, y, z})
			}
		}
	}
	return list
}

// valuesOf returns the values of a polynomial at all points, in their order.
func valuesOf(p int, f impl.Poly) []int {
	var list []int
	terms := plainOf(f)
	for _, at := range pointsOf(p) {
		list = append(list, terms.at(p, at))
	}
	return list
}

// lowExponent returns the one exponent below the prime whose powers of all
// elements are those of an exponent, found by comparing them.
func lowExponent(p int, exponent int) int {
	for n := range p {
		same := true
		for a := range p {
			same = same && powerBySquares(p, a, n) == powerBySquares(p, a, exponent)
		}
		if same {
			return n
		}
	}
	panic("no exponent below the prime")
}

// lowered returns the polynomial with exponents below the prime, as a plain one.
func lowered(p int, f impl.Poly) plain {
	result := plain{}
	for _, term := range f {
		var k powers
		for v, n := range term.Powers {
			k[v] = lowExponent(p, n)
		}
		result[k] += term.Times
	}
	return result
}

// lowPoly returns a polynomial with as many terms at most, whose exponents are below the prime.
func (d *draw) lowPoly(p int, terms int) impl.Poly {
	return d.poly(p, terms, min(p-1, 9))
}

// drawnPolys returns polynomials of many lengths and degrees, some of which
// are 0 at many points.
func (d *draw) drawnPolys(p int) []impl.Poly {
	list := []impl.Poly{nil, {{Times: 1}}, {{Times: p - 1}}, first(60), line(0, 0, 9), line(1, 1, 9), line(2, 0, 1)}
	for n := range 12 {
		list = append(list, d.poly(p, n, 9), d.poly(p, 1+d.below(3), 1+d.below(9)), d.lowPoly(p, 1+d.below(5)))
	}
	list = append(list, d.poly(p, 60, 9))
	for degree := 1; degree <= min(p, 9); degree++ {
		list = append(list, zerosAt(p, d.below(3), degree))
	}
	return list
}

// zerosAt returns the product of an unknown minus a, for each a less than a degree.
func zerosAt(p int, v int, degree int) impl.Poly {
	product := plain{powers{}: 1}
	var k powers
	k[v] = 1
	for a := range degree {
		product = product.times(plain{k: 1, powers{}: p - a})
	}
	f, ok := product.over(p)
	if !ok {
		panic("no polynomial with these zeros")
	}
	return f
}

// onlyAt returns a circuit whose result is 1 at a point and 0 at all others: of
// each unknown minus its value there, 1 minus the power p-1 is 1 only at 0.
func onlyAt(p int, at point) impl.Circuit {
	c := impl.Circuit{constGate(1), constGate(p - 1)}
	put := func(g impl.Gate) int {
		c = append(c, g)
		return len(c) - 1
	}
	product := 0
	for v, a := range at {
		difference := put(sumGate(put(unknownGate(v)), put(constGate(remainder(p, -a)))))
		power := 0
		for range p - 1 {
			power = put(productGate(power, difference))
		}
		factor := put(sumGate(0, put(productGate(1, power))))
		product = put(productGate(product, factor))
	}
	return c
}

func TestPointAt(t *testing.T) {
	for _, p := range primes {
		for n, want := range pointsOf(p) {
			if at, ok := impl.PointAt(p, n); at != want || !ok {
				t.Errorf("PointAt(%d, %d) = %v, %v, want %v", p, n, at, ok, want)
			}
		}
		if at, ok := impl.PointAt(p, p*p*p-1); at != (point{p - 1, p - 1, p - 1}) || !ok {
			t.Errorf("PointAt(%d, last) = %v, %v", p, at, ok)
		}
		for _, n := range []int{math.MinInt, -p * p * p, -p, -2, -1, p * p * p, p*p*p + 1, 2 * p * p * p, math.MaxInt} {
			if at, ok := impl.PointAt(p, n); at != (point{}) || ok {
				t.Errorf("PointAt(%d, %d) = %v, %v, want zeros and false", p, n, at, ok)
			}
		}
	}
	for _, p := range noPrimes {
		for _, n := range []int{math.MinInt, -1, 0, 1, 2, 7, 8, math.MaxInt} {
			if at, ok := impl.PointAt(p, n); at != (point{}) || ok {
				t.Errorf("PointAt(%d, %d) = %v, %v, want zeros and false", p, n, at, ok)
			}
		}
	}
}

func TestReducePoly(t *testing.T) {
	known := []struct {
		p    int
		f    string
		want string
	}{
		{2, "0", "0"}, {2, "1", "1"}, {13, "12", "12"},
		{2, "x9+y", "x+y"}, {2, "x2+x", "0"}, {2, "x2+x+1", "1"}, {2, "x9y8z7+x3y2z2+xyz", "xyz"},
		{2, "x9+x8+x7+x6", "0"}, {2, "x2+1", "x+1"}, {2, "x2y3+xy", "0"},
		{3, "x2", "x2"}, {3, "x3", "x"}, {3, "x4", "x2"}, {3, "x6", "x2"}, {3, "x8", "x2"}, {3, "x9", "x"},
		{3, "x3+2x", "0"}, {3, "x3+x", "2x"}, {3, "x5y3", "xy"}, {3, "x8+x6+x4", "0"}, {3, "x4+x2+1", "2x2+1"},
		{3, "x2y3+2x2y", "0"}, {3, "z9+2z7", "0"},
		{5, "x3", "x3"}, {5, "x4", "x4"}, {5, "x5", "x"}, {5, "x8", "x4"}, {5, "x9", "x"},
		{5, "x5+4x", "0"}, {5, "x8+4x4", "0"}, {5, "x4+4", "x4+4"}, {5, "x8y9z5", "x4yz"}, {5, "x9+x8+x5", "x4+2x"},
		{5, "x8+y5+1", "x4+y+1"}, {5, "x6+y", "x2+y"}, {5, "x5+x2", "x2+x"}, {5, "x5y+xy2", "xy2+xy"},
		{7, "x6", "x6"}, {7, "x7", "x"}, {7, "x9", "x3"}, {7, "x7+6x", "0"}, {7, "y8+z9+3", "y2+z3+3"},
		{11, "x9y9z9+10x+1", "x9y9z9+10x+1"}, {13, "x9", "x9"},
	}
	for _, k := range known {
		got, ok := impl.ReducePoly(k.p, read(t, k.p, k.f))
		expectPoly(t, "ReducePoly "+k.f, got, ok, read(t, k.p, k.want))
	}
}

// Each exponent, among them the prime, the prime minus 1 and its multiples, is
// made less as the values of the powers ask for.
func TestReducedExponents(t *testing.T) {
	for _, p := range primes {
		for _, k := range fallingPowers() {
			want := powers{lowExponent(p, k[0]), lowExponent(p, k[1]), lowExponent(p, k[2])}
			got, ok := impl.ReducePoly(p, impl.Poly{{Powers: k, Times: p - 1}})
			if !ok || len(got) != 1 || got[0] != (impl.Term{Powers: want, Times: p - 1}) {
				t.Fatalf("ReducePoly(%d, the powers %v) = %v, %v, want the powers %v", p, k, got, ok, want)
			}
		}
	}
}

func TestReducedPolys(t *testing.T) {
	d := draw(51)
	for _, p := range primes {
		for range 5 {
			for _, f := range d.drawnPolys(p) {
				got, ok := impl.ReducePoly(p, f)
				expectPlain(t, "ReducePoly", p, got, ok, lowered(p, f))
				if !slices.Equal(valuesOf(p, got), valuesOf(p, f)) {
					t.Fatalf("ReducePoly(%d, %v) = %v, which has other values", p, f, got)
				}
				again, ok := impl.ReducePoly(p, got)
				expectPoly(t, "ReducePoly of what it returns", again, ok, got)
				for v := range 3 {
					if n := impl.DegreeIn(p, got, v); n >= p {
						t.Errorf("ReducePoly(%d, %v) has the exponent %d", p, f, n)
					}
				}
			}
		}
	}
}

// Over the field of 2, no two of all 256 polynomials with exponents below the
// prime have the same values.
func TestAllPolysOver2(t *testing.T) {
	var polys []impl.Poly
	for chosen := range 256 {
		f := plain{}
		for i, k := range pointsOf(2) {
			f[k] = chosen >> i & 1
		}
		g, _ := f.over(2)
		polys = append(polys, g)
	}
	for i, f := range polys {
		for k, g := range polys {
			if got := impl.SameValues(2, f, g); got != (i == k) {
				t.Fatalf("SameValues(2, %v, %v) = %v", f, g, got)
			}
		}
	}
}

// Polynomials with the same values are the same if exponents are below the prime.
func TestSameValues(t *testing.T) {
	d := draw(52)
	for _, p := range primes {
		same, different := 0, 0
		for range 10 {
			polys := d.drawnPolys(p)
			for range 40 {
				f, g := polys[d.below(len(polys))], polys[d.below(len(polys))]
				if reduced, _ := impl.ReducePoly(p, f); d.below(3) == 0 {
					g = reduced
				}
				want := slices.Equal(valuesOf(p, f), valuesOf(p, g))
				if got := impl.SameValues(p, f, g); got != want {
					t.Errorf("SameValues(%d, %v, %v) = %v", p, f, g, got)
				}
				a, _ := lowered(p, f).over(p)
				b, _ := lowered(p, g).over(p)
				if slices.Equal(a, b) != want {
					t.Errorf("%v and %v with exponents below %d are %v and %v", f, g, p, a, b)
				}
				if want {
					same++
				} else {
					different++
				}
			}
		}
		if same < 50 || different < 50 {
			t.Errorf("over the field of %d, %d pairs have the same values, and %d have not", p, same, different)
		}
	}
	known := []struct {
		p    int
		f, g string
		want bool
	}{
		{3, "x3", "x", true}, {3, "x2", "x", false}, {2, "x2+x", "0", true}, {2, "x2", "x", true}, {2, "x2", "1", false},
		{3, "x2", "1", false}, {5, "x4", "1", false}, {5, "x8", "x4", true}, {5, "x9", "x5", true}, {5, "x5", "x", true},
		{5, "x", "y", false}, {5, "x5", "y5", false}, {5, "1", "2", false}, {5, "3", "3", true}, {5, "0", "0", true}, {13, "x9", "x8", false},
		{7, "x7+1", "x+1", true}, {7, "x7+1", "x+2", false}, {7, "x8", "x2", true}, {11, "x9", "x", false},
	}
	for _, k := range known {
		f, g := read(t, k.p, k.f), read(t, k.p, k.g)
		if impl.SameValues(k.p, f, g) != k.want || impl.SameValues(k.p, g, f) != k.want {
			t.Errorf("SameValues(%d, %s, %s) is not %v", k.p, k.f, k.g, k.want)
		}
	}
}

// expectValues checks what is told of a polynomial against its values at all points.
func expectValues(t *testing.T, p int, f impl.Poly) {
	t.Helper()
	zeros, sum := 0, 0
	points := pointsOf(p)
	var nonzero []point
	for i, value := range valuesOf(p, f) {
		sum += value
		if value == 0 {
			zeros++
		} else {
			nonzero = append(nonzero, points[i])
		}
	}
	if got := impl.CountZeros(p, f); got != zeros {
		t.Errorf("CountZeros(%d, %v) = %d, want %d", p, f, got, zeros)
	}
	if got := impl.SumOfValues(p, f); got != remainder(p, sum) {
		t.Errorf("SumOfValues(%d, %v) = %d, want %d", p, f, got, remainder(p, sum))
	}
	at, ok := impl.FirstNonzero(p, f)
	if len(nonzero) == 0 {
		if ok || at != (point{}) {
			t.Errorf("FirstNonzero(%d, %v) = %v, %v, want none", p, f, at, ok)
		}
	} else if !ok || at != nonzero[0] {
		t.Errorf("FirstNonzero(%d, %v) = %v, %v, want %v", p, f, at, ok, nonzero[0])
	}
	bound := impl.ZeroBound(p, f)
	if len(f) > 0 && (bound < 0 || bound%(p*p) != 0 || bound > p*p*p) {
		t.Errorf("ZeroBound(%d, %v) = %d", p, f, bound)
	}
	// Few values are 0, unless all of them are.
	if zeros < p*p*p && zeros > bound {
		t.Errorf("%v over the field of %d is 0 at %d points, ZeroBound is %d", f, p, zeros, bound)
	}
	if low, _ := lowered(p, f).over(p); (len(low) == 0) != (zeros == p*p*p) {
		t.Errorf("%v over the field of %d, which is %v below it, is 0 at %d points", f, p, low, zeros)
	}
}

func TestZerosAndSums(t *testing.T) {
	d := draw(53)
	for _, p := range primes {
		for _, f := range d.drawnPolys(p) {
			expectValues(t, p, f)
		}
	}
}

// What is known without a look at all points: constants, unknowns, products,
// and polynomials that are 0 everywhere.
func TestKnownZeros(t *testing.T) {
	expect := func(p int, f impl.Poly, zeros int, bound int, sum int) {
		t.Helper()
		a, b, c := impl.CountZeros(p, f), impl.ZeroBound(p, f), impl.SumOfValues(p, f)
		if a != zeros || b != bound || c != sum {
			t.Errorf("CountZeros, ZeroBound, SumOfValues(%d, %v) = %d, %d, %d, want %d, %d, %d", p, f, a, b, c, zeros, bound, sum)
		}
	}
	for _, p := range primes {
		all := p * p * p
		expect(p, nil, all, -1, 0)
		expect(p, impl.Poly{}, all, -1, 0)
		for a := 1; a < p; a++ {
			expect(p, impl.Poly{{Times: a}}, 0, 0, 0)
		}
		sum := 0
		if p == 2 {
			sum = 1
		}
		xyz := impl.Poly{{Powers: powers{1, 1, 1}, Times: 1}}
		expect(p, xyz, all-(p-1)*(p-1)*(p-1), min(p, 3)*p*p, sum)
		for v := range 3 {
			expect(p, line(v, 1, 1), p*p, p*p, 0)
		}
		for _, k := range []powers{{9, 9, 9}, {8, 8, 8}, {4, 4, 4}, {6, 6, 6}, {2, 4, 8}, {0, 4, 4}, {4, 0, 8}, {2, 2, 0}, {9, 0, 0}} {
			// The sum of the powers of all elements is p-1 for the multiples
			// of p-1 from p-1 on, and otherwise 0.
			sum := p - 1
			for _, n := range k {
				if n == 0 || n%(p-1) != 0 {
					sum = 0
				}
			}
			if got := impl.SumOfValues(p, impl.Poly{{Powers: k, Times: 1}}); got != sum {
				t.Errorf("SumOfValues(%d, the powers %v) = %d, want %d", p, k, got, sum)
			}
		}
	}
	// For these primes there is the power p of an unknown: minus the unknown it
	// is 0 everywhere, and with 1 more nowhere.
	for _, p := range []int{2, 3, 5, 7} {
		for v := range 3 {
			var high, low powers
			high[v], low[v] = p, 1
			f := impl.Poly{{Powers: high, Times: 1}, {Powers: low, Times: p - 1}}
			expect(p, f, p*p*p, p*p*p, 0)
			if at, ok := impl.FirstNonzero(p, f); ok || at != (point{}) {
				t.Errorf("FirstNonzero(%d, %v) = %v, %v", p, f, at, ok)
			}
			expect(p, append(f, impl.Term{Times: 1}), 0, p*p*p, 0)
		}
	}
}

// The bound is the degree times the points with one value of an unknown, for
// degrees less than the prime, equal to it, and greater, and some are 0 at as many.
func TestZeroBound(t *testing.T) {
	for _, p := range primes {
		for _, k := range fallingPowers() {
			degree := k[0] + k[1] + k[2]
			want := p * p * p
			if degree < p {
				want = degree * p * p
			}
			if got := impl.ZeroBound(p, impl.Poly{{Powers: k, Times: 1}}); got != want {
				t.Fatalf("ZeroBound(%d, the powers %v) = %d, want %d", p, k, got, want)
			}
		}
		for v := range 3 {
			for degree := 1; degree <= min(p, 9); degree++ {
				f := zerosAt(p, v, degree)
				if a, b := impl.CountZeros(p, f), impl.ZeroBound(p, f); a != degree*p*p || b != a {
					t.Errorf("CountZeros, ZeroBound(%d, %v) = %d, %d", p, f, a, b)
				}
			}
		}
	}
	// The degree is that of the greatest sum, not of the first term.
	if got := impl.ZeroBound(7, read(t, 7, "x+y2z3")); got != 5*49 {
		t.Errorf("ZeroBound = %d, want 245", got)
	}
}

func TestFirstNonzero(t *testing.T) {
	known := []struct {
		p    int
		f    string
		want point
	}{
		{2, "xyz", point{1, 1, 1}}, {2, "xz", point{1, 0, 1}}, {2, "x", point{1, 0, 0}}, {2, "z", point{0, 0, 1}}, {2, "y9", point{0, 1, 0}},
		{3, "1", point{0, 0, 0}}, {3, "x+1", point{0, 0, 0}}, {3, "x2+x", point{1, 0, 0}}, {3, "x2+2x", point{2, 0, 0}},
		{3, "y2+2y", point{0, 2, 0}}, {3, "z2+2z", point{0, 0, 2}}, {13, "z", point{0, 0, 1}}, {13, "xyz", point{1, 1, 1}},
		{5, "x+y+z", point{0, 0, 1}}, {5, "x5+4x+y", point{0, 1, 0}},
	}
	for _, k := range known {
		if at, ok := impl.FirstNonzero(k.p, read(t, k.p, k.f)); at != k.want || !ok {
			t.Errorf("FirstNonzero(%d, %s) = %v, %v, want %v", k.p, k.f, at, ok, k.want)
		}
	}
	// The last points: these are not 0 at p-1 alone.
	for _, p := range []int{2, 3} {
		product := plain{powers{}: 1}
		for v := range 3 {
			product = product.times(plainOf(zerosAt(p, v, p-1)))
		}
		f, _ := product.over(p)
		if at, ok := impl.FirstNonzero(p, f); at != (point{p - 1, p - 1, p - 1}) || !ok || impl.CountZeros(p, f) != p*p*p-1 {
			t.Errorf("FirstNonzero(%d, %v) = %v, %v", p, f, at, ok)
		}
	}
	for _, p := range []int{2, 3, 5, 7} {
		for v := range 3 {
			var want point
			want[v] = p - 1
			if at, ok := impl.FirstNonzero(p, zerosAt(p, v, p-1)); at != want || !ok {
				t.Errorf("FirstNonzero(%d, %v) = %v, %v, want %v", p, zerosAt(p, v, p-1), at, ok, want)
			}
		}
	}
}

// expectCompared checks what is told of two circuits of which it is known at
// how many points they are equal and which is the first other one.
func expectCompared(t *testing.T, p int, c impl.Circuit, d impl.Circuit, equal int, apart point) {
	t.Helper()
	for _, pair := range [][2]impl.Circuit{{c, d}, {d, c}} {
		if got := impl.CountEqual(p, pair[0], pair[1]); got != equal {
			t.Errorf("CountEqual(%d, %v, %v) = %d, want %d", p, pair[0], pair[1], got, equal)
		}
		if at, ok := impl.TellApart(p, pair[0], pair[1]); at != apart || ok != (equal < p*p*p) {
			t.Errorf("TellApart(%d, %v, %v) = %v, %v, want %v", p, pair[0], pair[1], at, ok, apart)
		}
	}
}

func TestDrawnCircuitsAtAllPoints(t *testing.T) {
	d := draw(54)
	for _, p := range primes {
		for range 10 {
			c, other := d.circuit(p, 1+d.below(12)), d.circuit(p, 1+d.below(12))
			if d.below(3) == 0 {
				other = withSpare(append(slices.Clone(c), constGate(0), sumGate(len(c)-1, len(c))), 0, constGate(1))
			}
			equal := 0
			apart, found := point{}, false
			for _, at := range pointsOf(p) {
				if valueOf(p, c, len(c)-1, at) == valueOf(p, other, len(other)-1, at) {
					equal++
				} else if !found {
					apart, found = at, true
				}
			}
			expectCompared(t, p, c, other, equal, apart)
		}
	}
}

func TestKnownCircuitsAtAllPoints(t *testing.T) {
	d := draw(55)
	for _, p := range primes {
		all := p * p * p
		x, y, z := impl.Circuit{unknownGate(0)}, impl.Circuit{unknownGate(1)}, impl.Circuit{unknownGate(2)}
		expectCompared(t, p, x, x, all, point{})
		expectCompared(t, p, x, y, p*p, point{0, 1, 0})
		expectCompared(t, p, x, z, p*p, point{0, 0, 1})
		expectCompared(t, p, y, z, p*p, point{0, 0, 1})
		expectCompared(t, p, impl.Circuit{constGate(0)}, impl.Circuit{constGate(p - 1)}, 0, point{})
		expectCompared(t, p, impl.Circuit{constGate(p - 1)}, impl.Circuit{constGate(p - 1)}, all, point{})
		expectCompared(t, p, x, impl.Circuit{constGate(0)}, p*p, point{1, 0, 0})
		expectCompared(t, p, x, impl.Circuit{constGate(1)}, p*p, point{})
		for range 5 {
			// The results are the same nowhere, with 1 more, and everywhere,
			// with all gates a second time.
			c := d.circuit(p, 1+d.below(29))
			n := len(c)
			expectCompared(t, p, c, append(slices.Clone(c), constGate(1), sumGate(n-1, n)), 0, point{})
			twice, ok := impl.JoinCircuits(p, c, c, impl.GateSum)
			if !ok {
				t.Fatalf("JoinCircuits(%d, %v, it)", p, c)
			}
			expectCompared(t, p, twice, append(slices.Clone(c), sumGate(n-1, n-1)), all, point{})
		}
		// The power p of an unknown is the unknown.
		for v := range 3 {
			power := impl.Circuit{unknownGate(v)}
			for n := range p - 1 {
				power = append(power, productGate(n, 0))
			}
			expectCompared(t, p, power, impl.Circuit{unknownGate(v)}, all, point{})
		}
	}
}

// The result is that of the last gate, also if others are equal, and of
// circuits whose polynomial has too great exponents.
func TestResultsOfGreatCircuits(t *testing.T) {
	for _, p := range primes {
		expectCompared(t, p, impl.Circuit{unknownGate(0), unknownGate(1)}, impl.Circuit{unknownGate(0), unknownGate(2)}, p*p, point{0, 0, 1})
		expectCompared(t, p, impl.Circuit{unknownGate(0), unknownGate(1)}, impl.Circuit{unknownGate(1)}, p*p*p, point{})
		for _, joined := range []int{4, 5, 58, 59} {
			c := chain(impl.GateProduct, joined)
			if _, ok := impl.PolyOfCircuit(p, c); ok {
				t.Errorf("PolyOfCircuit(%d, %v) is within the limits", p, c)
			}
			low := impl.Circuit{unknownGate(0)}
			for n := range lowExponent(p, 1<<joined) - 1 {
				low = append(low, productGate(n, 0))
			}
			expectCompared(t, p, c, low, p*p*p, point{})
		}
	}
}

// Circuits that differ at one point alone are told apart there, also at the
// first and at the last point.
func TestApartAtOnePoint(t *testing.T) {
	d := draw(56)
	for _, p := range primes {
		all := p * p * p
		zero := impl.Circuit{constGate(0)}
		for _, n := range []int{0, 1, p - 1, p, p*p - 1, p * p, all - p, all - 2, all - 1, d.below(all), d.below(all)} {
			at := pointsOf(p)[n]
			c := onlyAt(p, at)
			if !impl.CircuitValid(p, c) {
				t.Fatalf("%d gates are no circuit for the point %v", len(c), at)
			}
			expectCompared(t, p, c, zero, all-1, at)
		}
		// The first of two points is told.
		n := 1 + d.below(all-1)
		expectCompared(t, p, onlyAt(p, pointsOf(p)[n]), onlyAt(p, pointsOf(p)[n-1]), all-2, pointsOf(p)[n-1])
	}
}

// A circuit and its polynomial have the same values, so what is told of both is the same.
func TestCircuitsAndPolysAtAllPoints(t *testing.T) {
	d := draw(57)
	for _, p := range primes {
		polys := 0
		for range 30 {
			c := d.circuit(p, 1+d.below(15))
			f, ok := impl.PolyOfCircuit(p, c)
			if !ok {
				continue
			}
			polys++
			zero := impl.Circuit{constGate(0)}
			at, found := impl.FirstNonzero(p, f)
			expectCompared(t, p, c, zero, impl.CountZeros(p, f), at)
			if found == impl.SameValues(p, f, nil) {
				t.Errorf("FirstNonzero(%d, %v) = %v, %v, and SameValues of it and 0 is %v", p, f, at, found, found)
			}
		}
		if polys < 10 {
			t.Errorf("over the field of %d, %d circuits have a polynomial", p, polys)
		}
	}
}

// expectNoIdentity checks all functions for an f that is no polynomial over the field of p.
func expectNoIdentity(t *testing.T, p int, f impl.Poly) {
	t.Helper()
	got, ok := impl.ReducePoly(p, f)
	expectNone(t, "ReducePoly", got, ok)
	for _, g := range []impl.Poly{nil, {{Times: 1}}, f} {
		if impl.SameValues(p, f, g) || impl.SameValues(p, g, f) {
			t.Errorf("SameValues(%d, %v, %v) = true", p, f, g)
		}
	}
	if a, b, c := impl.CountZeros(p, f), impl.ZeroBound(p, f), impl.SumOfValues(p, f); a != -1 || b != -1 || c != -1 {
		t.Errorf("CountZeros, ZeroBound, SumOfValues(%d, %v) = %d, %d, %d, want -1", p, f, a, b, c)
	}
	if at, ok := impl.FirstNonzero(p, f); at != (point{}) || ok {
		t.Errorf("FirstNonzero(%d, %v) = %v, %v", p, f, at, ok)
	}
}

func TestIdentityOfNoPolys(t *testing.T) {
	for _, p := range primes {
		for _, f := range noPolys(p) {
			expectNoIdentity(t, p, f)
		}
	}
	for _, p := range noPrimes {
		for _, f := range []impl.Poly{nil, {}, {{Times: 1}}, {{Powers: powers{1, 0, 0}, Times: 1}, {Times: 1}}} {
			expectNoIdentity(t, p, f)
		}
	}
}

func TestIdentityOfNoCircuits(t *testing.T) {
	expectNotCompared := func(p int, c impl.Circuit) {
		t.Helper()
		for _, d := range []impl.Circuit{{unknownGate(0)}, {constGate(1)}, c} {
			for _, pair := range [][2]impl.Circuit{{c, d}, {d, c}} {
				if got := impl.CountEqual(p, pair[0], pair[1]); got != -1 {
					t.Errorf("CountEqual(%d, %v, %v) = %d, want -1", p, pair[0], pair[1], got)
				}
				if at, ok := impl.TellApart(p, pair[0], pair[1]); at != (point{}) || ok {
					t.Errorf("TellApart(%d, %v, %v) = %v, %v", p, pair[0], pair[1], at, ok)
				}
			}
		}
	}
	for _, p := range primes {
		for _, c := range noCircuits(p) {
			expectNotCompared(p, c)
		}
	}
	for _, p := range noPrimes {
		for _, c := range []impl.Circuit{nil, {{}}, {constGate(0)}, {constGate(1)}, {unknownGate(0), productGate(0, 0)}} {
			expectNotCompared(p, c)
		}
	}
}

func TestIdentitySharesNoMemory(t *testing.T) {
	junk := impl.Term{Powers: powers{-7, -7, -7}, Times: -7}
	for _, texts := range [][2]string{{"x5+4x", "0"}, {"x9y+x2+y4z5+2", "x2+xy+y4z+2"}, {"x4+2y+3", "x4+2y+3"}, {"3", "3"}, {"0", "0"}} {
		full := append(read(t, 5, texts[0]), junk, junk, junk)
		f := full[:len(full)-3]
		before := slices.Clone(full)
		got, ok := impl.ReducePoly(5, f)
		other, _ := impl.ReducePoly(5, f)
		expectPoly(t, "ReducePoly "+texts[0], got, ok, read(t, 5, texts[1]))
		for i := range got[:cap(got)] {
			got[:cap(got)][i] = impl.Term{Times: -8}
		}
		expectPoly(t, "another ReducePoly "+texts[0], other, true, read(t, 5, texts[1]))
		impl.SameValues(5, f, f)
		impl.CountZeros(5, f)
		impl.ZeroBound(5, f)
		impl.FirstNonzero(5, f)
		impl.SumOfValues(5, f)
		if !slices.Equal(full, before) {
			t.Errorf("%s has changed: %v", texts[0], full)
		}
	}
	spare := impl.Gate{Kind: -7, A: -7, B: -7}
	full := impl.Circuit{unknownGate(0), unknownGate(1), sumGate(0, 1), productGate(2, 2), spare, spare}
	before := slices.Clone(full)
	impl.CountEqual(5, full[:4], full[:3])
	impl.TellApart(5, full[:3], full[:4])
	if !slices.Equal(full, before) {
		t.Errorf("a circuit has changed: %v", full)
	}
}

// Calls at the same time have the results that each one has alone.
func TestIdentityAtTheSameTime(t *testing.T) {
	d := draw(58)
	var calls sync.WaitGroup
	for n := range 40 {
		p := primes[n%len(primes)]
		f := d.poly(p, 1+d.below(10), 9)
		at := pointsOf(p)[d.below(p*p*p)]
		calls.Go(func() {
			expectValues(t, p, f)
			expectCompared(t, p, onlyAt(p, at), impl.Circuit{constGate(0)}, p*p*p-1, at)
		})
	}
	calls.Wait()
}

// What is told is the same in each of many calls.
func TestIdentityIsTheSameAgain(t *testing.T) {
	f := read(t, 13, "x9y2+3y5z7+z+11")
	expectValues(t, 13, f)
	zeros, sum := impl.CountZeros(13, f), impl.SumOfValues(13, f)
	for range 50 {
		if a, b := impl.CountZeros(13, f), impl.SumOfValues(13, f); a != zeros || b != sum {
			t.Fatalf("CountZeros, SumOfValues = %d, %d, before they were %d, %d", a, b, zeros, sum)
		}
	}
}
