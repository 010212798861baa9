package tests

import (
	"math"
	"slices"
	"strings"
	"sync"
	"testing"

	"loop.example/polycircuits/impl"
)

// The fields whose points are few enough for lists of values, and the others.
var (
	listedPrimes   = []int{2, 3}
	unlistedPrimes = []int{5, 7, 11, 13}
)

// digits returns the numbers that digits are.
func digits(s string) []int {
	var list []int
	for _, r := range s {
		list = append(list, int(r-'0'))
	}
	return list
}

// pointPlain returns the polynomial that is 1 at a point and 0 at all others:
// of each unknown minus its value there, 1 minus the power p-1 is 1 only at 0.
func pointPlain(p int, at point) plain {
	one := plain{powers{}: 1}
	product := one
	for v, a := range at {
		var k powers
		k[v] = 1
		power := plain{powers{}: -1}
		for range p - 1 {
			power = power.times(plain{k: 1, powers{}: -a})
		}
		product = product.times(one.plus(power))
	}
	return product
}

// plainOfValues returns the polynomial that has the values of a list.
func plainOfValues(p int, list []int) plain {
	sum := plain{}
	for i, at := range pointsOf(p) {
		sum = sum.plus(pointPlain(p, at).times(plain{powers{}: list[i]}))
	}
	return sum
}

// countsOf returns how often each element is in a list.
func countsOf(p int, list []int) []int {
	counts := make([]int, p)
	for _, value := range list {
		counts[value]++
	}
	return counts
}

// unknownsNeeded returns the unknowns for which two points that differ in this
// one alone have different values, found by comparing all such points.
func unknownsNeeded(p int, list []int) []int {
	points := pointsOf(p)
	var needed []int
	for v, step := range []int{p * p, p, 1} {
		differs := false
		for i, at := range points {
			for a := range p {
				differs = differs || list[i] != list[i+(a-at[v])*step]
			}
		}
		if differs {
			needed = append(needed, v)
		}
	}
	return needed
}

// values returns a list of elements, one for each point.
func (d *draw) values(p int) []int {
	list := make([]int, p*p*p)
	for i := range list {
		list[i] = d.below(p)
	}
	return list
}

// withoutValues returns a polynomial with the same values, in which other
// terms stand as well, whose sum is 0 everywhere, if there is room for them.
func (d *draw) withoutValues(p int, f impl.Poly) impl.Poly {
	sum := plainOf(f)
	// The other primes are greater than all exponents.
	for range (1 + d.below(3)) * min(9/p, 1) {
		v := d.below(3)
		high := powers{d.below(10), d.below(10), d.below(10)}
		high[v] = p + d.below(10-p)
		low := high
		low[v] -= p - 1
		times := 1 + d.below(p-1)
		sum = sum.plus(plain{high: times, low: -times})
	}
	if g, ok := sum.over(p); ok {
		return g
	}
	return f
}

// expectCounts checks what is told of how often the elements are values, and of
// the unknowns that are needed, against the values at all points.
func expectCounts(t *testing.T, p int, f impl.Poly) {
	t.Helper()
	list := valuesOf(p, f)
	counts := countsOf(p, list)
	if got := impl.CountValues(p, f); !slices.Equal(got, counts) {
		t.Errorf("CountValues(%d, %v) = %v, want %v", p, f, got, counts)
	}
	if got, want := impl.IsOnto(p, f), slices.Min(counts) > 0; got != want {
		t.Errorf("IsOnto(%d, %v) = %v, the values are at %v points", p, f, got, counts)
	}
	if got, want := impl.IsBalanced(p, f), slices.Min(counts) == p*p; got != want {
		t.Errorf("IsBalanced(%d, %v) = %v, the values are at %v points", p, f, got, counts)
	}
	if got, want := impl.NeedsOf(p, f), unknownsNeeded(p, list); !slices.Equal(got, want) {
		t.Errorf("NeedsOf(%d, %v) = %v, want %v", p, f, got, want)
	}
}

// expectList checks that a list is that of the values of just the polynomial
// that it makes.
func expectList(t *testing.T, p int, list []int) {
	t.Helper()
	f, ok := impl.PolyOfValues(p, list)
	expectPlain(t, "PolyOfValues", p, f, ok, plainOfValues(p, list))
	if got := impl.ValuesOf(p, f); !slices.Equal(got, list) {
		t.Errorf("ValuesOf(%d, %v), the polynomial of the values %v, = %v", p, f, list, got)
	}
	for v := range 3 {
		if n := impl.DegreeIn(p, f, v); n >= p {
			t.Errorf("PolyOfValues(%d, %v) has the exponent %d", p, list, n)
		}
	}
}

func TestKnownLists(t *testing.T) {
	known := []struct {
		p    int
		list string
		f    string
	}{
		{2, "00000001", "xyz"},
		{2, "00000000", "0"}, {2, "11111111", "1"},
		{2, "00001111", "x"}, {2, "00110011", "y"}, {2, "01010101", "z"},
		{2, "01011010", "x+z"}, {2, "11110000", "x+1"}, {2, "00000011", "xy"}, {2, "00000101", "xz"}, {2, "00010001", "yz"},
		{2, "10000000", "xyz+xy+xz+x+yz+y+z+1"}, {2, "11111110", "xyz+1"}, {2, "01101001", "x+y+z"}, {2, "00010111", "xy+xz+yz"},
		{3, "000000000000000000000000000", "0"}, {3, "111111111111111111111111111", "1"}, {3, "222222222222222222222222222", "2"},
		{3, "000000000111111111222222222", "x"}, {3, "000111222000111222000111222", "y"}, {3, "012012012012012012012012012", "z"},
		{3, "000000000111111111111111111", "x2"}, {3, "000000000222222222222222222", "2x2"}, {3, "200200200200200200200200200", "z2+2"},
		{3, "012120201012120201012120201", "y+z"}, {3, "000012021000012021000012021", "yz"}, {3, "000000000000012021000021012", "xyz"},
		{3, "100000000100000000100000000", "y2z2+2y2+2z2+1"},
	}
	for _, k := range known {
		list, f := digits(k.list), read(t, k.p, k.f)
		got, ok := impl.PolyOfValues(k.p, list)
		expectPoly(t, "PolyOfValues "+k.list, got, ok, f)
		if got := impl.ValuesOf(k.p, f); !slices.Equal(got, list) {
			t.Errorf("ValuesOf(%d, %s) = %v, want %s", k.p, k.f, got, k.list)
		}
	}
}

// Over the field of 2, each of the 256 lists is that of just one of the 256
// polynomials with exponents below the prime.
func TestAllListsOver2(t *testing.T) {
	made := map[string]bool{}
	for chosen := range 256 {
		list := make([]int, 8)
		sum := plain{}
		for i, k := range pointsOf(2) {
			list[i] = chosen >> i & 1
			sum[k] = chosen >> i & 1
		}
		expectList(t, 2, list)
		f, _ := impl.PolyOfValues(2, list)
		made[impl.FormatPoly(2, f)] = true
		g, _ := sum.over(2)
		again, ok := impl.PolyOfValues(2, impl.ValuesOf(2, g))
		expectPoly(t, "PolyOfValues of ValuesOf", again, ok, g)
	}
	if len(made) != 256 {
		t.Errorf("256 lists are those of %d polynomials", len(made))
	}
}

// Lists of one element only, of one that differs, and of two that do.
func TestListsThatAreNearlyTheSame(t *testing.T) {
	for _, p := range listedPrimes {
		points := p * p * p
		for a := range p {
			list := slices.Repeat([]int{a}, points)
			expectList(t, p, list)
			f, ok := impl.PolyOfValues(p, list)
			alone, _ := plain{powers{}: a}.over(p)
			expectPoly(t, "PolyOfValues of one element", f, ok, alone)
			for i := range points {
				for b := range p {
					list[i] = b
					expectList(t, p, list)
					list[(i+points/2)%points] = b
					expectList(t, p, list)
					list[(i+points/2)%points] = a
				}
				list[i] = a
			}
		}
	}
}

// All lists of one unknown alone.
func TestListsOfOneUnknown(t *testing.T) {
	for _, p := range listedPrimes {
		for chosen := range p * p * p {
			taken := []int{chosen % p, chosen / p % p, chosen / (p * p)}
			for v := range 3 {
				list := make([]int, p*p*p)
				for i, at := range pointsOf(p) {
					list[i] = taken[at[v]]
				}
				expectList(t, p, list)
				f, _ := impl.PolyOfValues(p, list)
				for other := range 3 {
					if n := impl.DegreeIn(p, f, other); other != v && n > 0 {
						t.Errorf("PolyOfValues(%d, %v) = %v, where another unknown stands", p, list, f)
					}
				}
			}
		}
	}
}

func TestDrawnLists(t *testing.T) {
	d := draw(121)
	for _, p := range listedPrimes {
		made := map[string][]int{}
		for n := range 300 {
			list := d.values(p)
			// Some of them begin or end with zeros.
			if n%3 == 1 {
				clear(list[d.below(len(list)):])
			} else if n%3 == 2 {
				clear(list[:d.below(len(list))])
			}
			expectList(t, p, list)
			f, _ := impl.PolyOfValues(p, list)
			s := impl.FormatPoly(p, f)
			if before, ok := made[s]; ok && !slices.Equal(before, list) {
				t.Errorf("%s has the values %v and %v over the field of %d", s, before, list, p)
			}
			made[s] = list
		}
	}
}

// What PolyOfValues makes of the values of a polynomial is the one of the same
// values with exponents below the prime.
func TestPolysOfTheirValues(t *testing.T) {
	d := draw(122)
	for _, p := range listedPrimes {
		for range 10 {
			for _, f := range d.drawnPolys(p) {
				list := impl.ValuesOf(p, f)
				if !slices.Equal(list, valuesOf(p, f)) {
					t.Fatalf("ValuesOf(%d, %v) = %v, want %v", p, f, list, valuesOf(p, f))
				}
				g, ok := impl.PolyOfValues(p, list)
				expectPlain(t, "PolyOfValues of ValuesOf", p, g, ok, lowered(p, f))
				reduced, _ := impl.ReducePoly(p, f)
				expectPoly(t, "PolyOfValues and ReducePoly", g, ok, reduced)
				if got := impl.ValuesOf(p, d.withoutValues(p, f)); !slices.Equal(got, list) {
					t.Errorf("ValuesOf(%d, %v and terms that are 0) = %v, want %v", p, f, got, list)
				}
			}
		}
	}
	known := []struct {
		p    int
		f    string
		want string
	}{
		{2, "x9y8z7", "xyz"}, {2, "x2+x", "0"}, {2, "x2+x+1", "1"}, {2, "x2+1", "x+1"}, {3, "x3", "x"}, {3, "x4", "x2"},
		{3, "x3+2x", "0"}, {3, "x8+x6+x4", "0"}, {3, "x5y3", "xy"}, {3, "x3+x2y2z2+z9", "x2y2z2+x+z"},
	}
	for _, k := range known {
		got, ok := impl.PolyOfValues(k.p, impl.ValuesOf(k.p, read(t, k.p, k.f)))
		expectPoly(t, "PolyOfValues of the values of "+k.f, got, ok, read(t, k.p, k.want))
	}
}

func TestPointPoly(t *testing.T) {
	known := []struct {
		p    int
		n    int
		want string
	}{
		{2, 0, "xyz+xy+xz+x+yz+y+z+1"}, {2, 1, "xyz+xz+yz+z"}, {2, 5, "xyz+xz"}, {2, 6, "xyz+xy"}, {2, 7, "xyz"},
		{3, 0, "2x2y2z2+x2y2+x2z2+2x2+y2z2+2y2+2z2+1"}, {3, 13, "2x2y2z2+2x2y2z+2x2yz2+2x2yz+2xy2z2+2xy2z+2xyz2+2xyz"},
		{3, 26, "2x2y2z2+x2y2z+x2yz2+2x2yz+xy2z2+2xy2z+2xyz2+xyz"},
	}
	for _, k := range known {
		got, ok := impl.PointPoly(k.p, k.n)
		expectPoly(t, "PointPoly", got, ok, read(t, k.p, k.want))
	}
	for _, p := range listedPrimes {
		for n, at := range pointsOf(p) {
			got, ok := impl.PointPoly(p, n)
			expectPlain(t, "PointPoly", p, got, ok, pointPlain(p, at))
			want := make([]int, p*p*p)
			want[n] = 1
			if values := impl.ValuesOf(p, got); !slices.Equal(values, want) {
				t.Errorf("ValuesOf(%d, PointPoly of %d) = %v", p, n, values)
			}
			again, ok := impl.PolyOfValues(p, want)
			expectPoly(t, "PolyOfValues of the values of PointPoly", again, ok, got)
			if zeros := impl.CountZeros(p, got); zeros != p*p*p-1 {
				t.Errorf("PointPoly(%d, %d) is 0 at %d points", p, n, zeros)
			}
		}
		for _, n := range []int{math.MinInt, -p * p * p, -27, -8, -2, -1, p * p * p, p*p*p + 1, 2 * p * p * p, 1000, math.MaxInt} {
			got, ok := impl.PointPoly(p, n)
			expectNone(t, "PointPoly of no point", got, ok)
		}
	}
	// These have such points, but too many of them.
	for _, p := range append(unlistedPrimes, noPrimes...) {
		for _, n := range []int{math.MinInt, -1, 0, 1, 7, 8, 26, 27, 124, math.MaxInt} {
			got, ok := impl.PointPoly(p, n)
			expectNone(t, "PointPoly of another prime", got, ok)
		}
	}
}

func TestKnownCounts(t *testing.T) {
	known := []struct {
		p        int
		f        string
		counts   []int
		onto     bool
		balanced bool
		needs    string
	}{
		{2, "0", []int{8, 0}, false, false, ""}, {2, "1", []int{0, 8}, false, false, ""}, {3, "2", []int{0, 0, 27}, false, false, ""},
		{2, "xyz", []int{7, 1}, true, false, "012"}, {2, "xyz+1", []int{1, 7}, true, false, "012"}, {2, "xy", []int{6, 2}, true, false, "01"},
		{2, "x", []int{4, 4}, true, true, "0"}, {2, "x+y+z", []int{4, 4}, true, true, "012"}, {2, "xy+z", []int{4, 4}, true, true, "012"},
		{2, "x2+x", []int{8, 0}, false, false, ""}, {2, "x2+x+1", []int{0, 8}, false, false, ""}, {2, "x2+x+z", []int{4, 4}, true, true, "2"},
		{2, "x2y+xy+z", []int{4, 4}, true, true, "2"}, {2, "xy+xz+yz", []int{4, 4}, true, true, "012"}, {2, "y2z+yz", []int{8, 0}, false, false, ""},
		{3, "x2", []int{9, 18, 0}, false, false, "0"}, {3, "2x2", []int{9, 0, 18}, false, false, "0"}, {3, "x2+1", []int{0, 9, 18}, false, false, "0"},
		{3, "x2+2", []int{18, 0, 9}, false, false, "0"}, {3, "x+2", []int{9, 9, 9}, true, true, "0"}, {3, "y9", []int{9, 9, 9}, true, true, "1"},
		{3, "x3+2x+z", []int{9, 9, 9}, true, true, "2"}, {3, "x3+2x", []int{27, 0, 0}, false, false, ""}, {3, "x3+2x+1", []int{0, 27, 0}, false, false, ""},
		{3, "xz", []int{15, 6, 6}, true, false, "02"}, {3, "xyz", []int{19, 4, 4}, true, false, "012"}, {3, "x2+y", []int{9, 9, 9}, true, true, "01"},
		{3, "x2+y2", []int{3, 12, 12}, true, false, "01"}, {3, "x2+y2+z2", []int{9, 6, 12}, true, false, "012"}, {3, "x2y2z2", []int{19, 8, 0}, false, false, "012"},
		{3, "x4y+2x2y+z8", []int{9, 18, 0}, false, false, "2"}, {3, "x3y+2xy+y", []int{9, 9, 9}, true, true, "1"},
		{5, "x2", []int{25, 50, 0, 0, 50}, false, false, "0"}, {5, "x3", []int{25, 25, 25, 25, 25}, true, true, "0"}, {5, "y4", []int{25, 100, 0, 0, 0}, false, false, "1"},
		{5, "z5", []int{25, 25, 25, 25, 25}, true, true, "2"}, {5, "x5+4x+3", []int{0, 0, 0, 125, 0}, false, false, ""}, {5, "xy", []int{45, 20, 20, 20, 20}, true, false, "01"},
		{7, "x3", []int{49, 147, 0, 0, 0, 0, 147}, false, false, "0"}, {7, "x7+6x+y5", []int{49, 49, 49, 49, 49, 49, 49}, true, true, "1"},
		{11, "x5", []int{121, 605, 0, 0, 0, 0, 0, 0, 0, 0, 605}, false, false, "0"}, {11, "x9", slices.Repeat([]int{121}, 11), true, true, "0"},
		{13, "12", append(make([]int, 12), 2197), false, false, ""}, {13, "x5y9+z", slices.Repeat([]int{169}, 13), true, true, "012"},
		{13, "xyz", append([]int{469}, slices.Repeat([]int{144}, 12)...), true, false, "012"},
	}
	for _, k := range known {
		f := read(t, k.p, k.f)
		if got := impl.CountValues(k.p, f); !slices.Equal(got, k.counts) {
			t.Errorf("CountValues(%d, %s) = %v, want %v", k.p, k.f, got, k.counts)
		}
		if onto, balanced := impl.IsOnto(k.p, f), impl.IsBalanced(k.p, f); onto != k.onto || balanced != k.balanced {
			t.Errorf("IsOnto, IsBalanced(%d, %s) = %v, %v, want %v, %v", k.p, k.f, onto, balanced, k.onto, k.balanced)
		}
		if got := impl.NeedsOf(k.p, f); !slices.Equal(got, digits(k.needs)) {
			t.Errorf("NeedsOf(%d, %s) = %v, want %s", k.p, k.f, got, k.needs)
		}
		expectCounts(t, k.p, f)
	}
}

// Drawn polynomials of all fields, the same ones with terms whose sum is 0, and
// the sum of an unknown and what the others make, which is balanced.
func TestCountsOfDrawnPolys(t *testing.T) {
	d := draw(123)
	for _, p := range primes {
		onto, notOnto, balanced := 0, 0, 0
		for _, f := range slices.Concat(d.drawnPolys(p), d.drawnPolys(p)) {
			expectCounts(t, p, f)
			expectCounts(t, p, d.withoutValues(p, f))
			others := plain{powers{1, 0, 0}: 1}
			for _, term := range f {
				others[powers{0, term.Powers[1], term.Powers[2]}] += term.Times
			}
			if g, ok := others.over(p); ok {
				expectCounts(t, p, g)
				if !impl.IsBalanced(p, g) {
					t.Errorf("IsBalanced(%d, %v) = false", p, g)
				}
			}
			switch {
			case impl.IsBalanced(p, f):
				balanced++
			case impl.IsOnto(p, f):
				onto++
			default:
				notOnto++
			}
		}
		if onto < 3 || notOnto < 3 || balanced < 3 {
			t.Errorf("over the field of %d, %d polynomials are balanced, %d others onto, and %d not", p, balanced, onto, notOnto)
		}
	}
}

// Polynomials of all lists over the field of 2, of lists in which a value is at
// few points, and of drawn ones.
func TestCountsOfLists(t *testing.T) {
	for chosen := range 256 {
		list := make([]int, 8)
		for i := range list {
			list[i] = chosen >> i & 1
		}
		f, _ := impl.PolyOfValues(2, list)
		expectCounts(t, 2, f)
	}
	d := draw(124)
	for _, p := range listedPrimes {
		for n, at := range pointsOf(p) {
			f, _ := pointPlain(p, at).over(p)
			expectCounts(t, p, f)
			list := slices.Repeat([]int{d.below(p)}, p*p*p)
			list[n] = d.below(p)
			list[(n+1)%len(list)] = d.below(p)
			f, _ = impl.PolyOfValues(p, list)
			expectCounts(t, p, f)
		}
		for range 100 {
			f, _ := impl.PolyOfValues(p, d.values(p))
			expectCounts(t, p, f)
		}
	}
	// Each value at 9 points, but two of them at one more and one less.
	list := digits("000000000111111111222222222")
	f, _ := impl.PolyOfValues(3, list)
	if !impl.IsBalanced(3, f) {
		t.Errorf("IsBalanced(3, %v) = false", f)
	}
	for _, changed := range []string{"100000000111111111222222222", "200000000111111111222222222", "000000000111111112222222222", "000000000011111111222222222"} {
		f, _ := impl.PolyOfValues(3, digits(changed))
		if impl.IsBalanced(3, f) || !impl.IsOnto(3, f) {
			t.Errorf("IsBalanced, IsOnto(3, the values %s) = %v, %v", changed, impl.IsBalanced(3, f), impl.IsOnto(3, f))
		}
	}
}

// For each choice of unknowns, those stand for nothing that were not chosen:
// their power p and minus themselves stand there, also beside others.
func TestUnknownsThatFallAway(t *testing.T) {
	for _, p := range []int{2, 3, 5, 7} {
		for chosen := range 8 {
			sum, product := plain{}, plain{powers{1, 1, 1}: 1}
			var want []int
			for v := range 3 {
				var low, high powers
				low[v], high[v] = 1, p
				if chosen>>v&1 == 1 {
					want = append(want, v)
					sum = sum.plus(plain{low: 1})
				} else {
					sum = sum.plus(plain{high: 1, low: -1})
					product = product.times(plain{high: 1, low: 1})
				}
			}
			f, _ := sum.over(p)
			if got := impl.NeedsOf(p, f); !slices.Equal(got, want) {
				t.Errorf("NeedsOf(%d, %v) = %v, want %v", p, f, got, want)
			}
			expectCounts(t, p, f)
			// Of the product all unknowns are needed, or none is.
			if g, ok := product.over(p); ok {
				expectCounts(t, p, g)
			}
		}
		for v := range 3 {
			// (v^p-v) times the next unknown is 0, and needs neither of both.
			var low, high, next powers
			low[v], high[v], next[(v+1)%3] = 1, p, 1
			nothing := plain{high: 1, low: -1}.times(plain{next: 1})
			f, _ := nothing.over(p)
			if got := impl.NeedsOf(p, f); len(got) != 0 {
				t.Errorf("NeedsOf(%d, %v) = %v, want none", p, f, got)
			}
			f, _ = nothing.plus(plain{next: 1}).over(p)
			if got := impl.NeedsOf(p, f); !slices.Equal(got, []int{(v + 1) % 3}) {
				t.Errorf("NeedsOf(%d, %v) = %v, want %d", p, f, got, (v+1)%3)
			}
		}
	}
	// For greater primes each unknown that stands there is needed.
	for _, p := range []int{11, 13} {
		for _, k := range []powers{{9, 0, 0}, {0, 9, 0}, {0, 0, 9}, {9, 9, 0}, {1, 0, 8}, {0, 9, 9}, {9, 9, 9}} {
			expectCounts(t, p, impl.Poly{{Powers: k, Times: p - 1}})
		}
	}
}

// Values are listed for no other primes, but they are counted.
func TestPrimesWithTooManyPoints(t *testing.T) {
	d := draw(125)
	for _, p := range unlistedPrimes {
		for _, f := range append(d.drawnPolys(p), impl.Poly{}) {
			if got := impl.ValuesOf(p, f); len(got) != 0 {
				t.Errorf("ValuesOf(%d, %v) = %v, want none", p, f, got)
			}
			if got := impl.CountValues(p, f); len(got) != p {
				t.Errorf("CountValues(%d, %v) = %v", p, f, got)
			}
		}
		for _, length := range []int{0, 1, 8, 27, p, p * p, p*p*p - 1, p * p * p, p*p*p + 1} {
			for _, a := range []int{0, 1} {
				got, ok := impl.PolyOfValues(p, slices.Repeat([]int{a}, length))
				expectNone(t, "PolyOfValues of another prime", got, ok)
			}
		}
	}
}

func TestListsThatAreNone(t *testing.T) {
	for _, p := range listedPrimes {
		for length := range 100 {
			if length == p*p*p {
				continue
			}
			for a := range p {
				got, ok := impl.PolyOfValues(p, slices.Repeat([]int{a}, length))
				expectNone(t, "PolyOfValues of another length", got, ok)
			}
		}
		got, ok := impl.PolyOfValues(p, nil)
		expectNone(t, "PolyOfValues of no list", got, ok)
		got, ok = impl.PolyOfValues(p, make([]int, 0, p*p*p))
		expectNone(t, "PolyOfValues of a list without elements", got, ok)
		for _, a := range outsideOf(p) {
			for i := range p * p * p {
				for _, other := range []int{0, 1} {
					list := slices.Repeat([]int{other}, p*p*p)
					list[i] = a
					got, ok := impl.PolyOfValues(p, list)
					expectNone(t, "PolyOfValues of what is no element", got, ok)
				}
			}
		}
	}
	for _, p := range noPrimes {
		for _, length := range []int{0, 1, 8, 27, 64, 216, 512, 729, 1000} {
			for _, a := range []int{0, 1} {
				got, ok := impl.PolyOfValues(p, slices.Repeat([]int{a}, length))
				expectNone(t, "PolyOfValues of no prime", got, ok)
			}
		}
	}
}

// expectNothingOfValues checks what is told of terms that are no polynomial.
func expectNothingOfValues(t *testing.T, p int, f impl.Poly) {
	t.Helper()
	if got := impl.ValuesOf(p, f); len(got) != 0 {
		t.Errorf("ValuesOf(%d, %v) = %v, want none", p, f, got)
	}
	if got := impl.CountValues(p, f); len(got) != 0 {
		t.Errorf("CountValues(%d, %v) = %v, want none", p, f, got)
	}
	if got := impl.NeedsOf(p, f); len(got) != 0 {
		t.Errorf("NeedsOf(%d, %v) = %v, want none", p, f, got)
	}
	if impl.IsOnto(p, f) || impl.IsBalanced(p, f) {
		t.Errorf("IsOnto, IsBalanced(%d, %v) = %v, %v", p, f, impl.IsOnto(p, f), impl.IsBalanced(p, f))
	}
}

func TestValuesOfNoPolys(t *testing.T) {
	for _, p := range primes {
		for _, f := range noPolys(p) {
			expectNothingOfValues(t, p, f)
		}
	}
	for _, p := range noPrimes {
		for _, s := range []string{"0", "1", "x", "xyz", "x+y"} {
			expectNothingOfValues(t, p, read(t, 2, s))
		}
	}
}

func TestValuesShareNoMemory(t *testing.T) {
	junk := impl.Term{Powers: powers{-7, -7, -7}, Times: -7}
	terms := append(read(t, 3, "2x2y+y4"), junk, junk)
	f := terms[:2]
	termsBefore := slices.Clone(terms)
	elements := append(digits(strings.Repeat("012211020", 3)), -7, -7)
	list := elements[:27]
	elementsBefore := slices.Clone(elements)
	expectSame := func(name string) {
		t.Helper()
		if !slices.Equal(terms, termsBefore) || !slices.Equal(elements, elementsBefore) {
			t.Fatalf("%s shares memory with its argument or changes it: %v, %v", name, terms, elements)
		}
	}
	numbers := map[string]func() []int{
		"ValuesOf":         func() []int { return impl.ValuesOf(3, f) },
		"ValuesOf 0":       func() []int { return impl.ValuesOf(2, f[:0]) },
		"ValuesOf over 5":  func() []int { return impl.ValuesOf(5, f) },
		"CountValues":      func() []int { return impl.CountValues(3, f) },
		"CountValues of 0": func() []int { return impl.CountValues(13, f[:0]) },
		"NeedsOf":          func() []int { return impl.NeedsOf(3, f) },
		"NeedsOf 0":        func() []int { return impl.NeedsOf(3, f[:0]) },
	}
	for name, call := range numbers {
		expectNewNumbers(t, name, call)
		expectSame(name)
	}
	polys := map[string]func() (impl.Poly, bool){
		"PolyOfValues":          func() (impl.Poly, bool) { return impl.PolyOfValues(3, list) },
		"PolyOfValues over 2":   func() (impl.Poly, bool) { return impl.PolyOfValues(2, make([]int, 8, 30)) },
		"PointPoly":             func() (impl.Poly, bool) { return impl.PointPoly(3, 5) },
		"PointPoly of the last": func() (impl.Poly, bool) { return impl.PointPoly(2, 7) },
	}
	for name, call := range polys {
		expectNewPolys(t, name, call)
		expectSame(name)
	}
	impl.IsOnto(3, f)
	impl.IsBalanced(3, f)
	expectSame("IsOnto or IsBalanced")
}

// Calls at the same time, also with the same arguments, have the results that
// each one has alone.
func TestValuesAtTheSameTime(t *testing.T) {
	shared := read(t, 3, "2x2y2+xz+y5+1")
	d := draw(126)
	list := d.values(3)
	var calls sync.WaitGroup
	for n := range 40 {
		p := primes[n%len(primes)]
		f := d.poly(p, 1+d.below(10), 9)
		own := d.values(2)
		calls.Go(func() {
			expectCounts(t, p, f)
			expectCounts(t, 3, shared)
			expectList(t, 2, own)
			expectList(t, 3, list)
		})
	}
	calls.Wait()
}
