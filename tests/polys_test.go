package tests

import (
	"math"
	"slices"
	"strconv"
	"strings"
	"testing"

	"loop.example/polycircuits/impl"
)

type powers = [3]int

// A plain polynomial is what the tests hold results against: what stands
// before each product of unknowns, as any number, without limits.
type plain map[powers]int

func plainOf(f impl.Poly) plain {
	result := plain{}
	for _, t := range f {
		result[t.Powers] += t.Times
	}
	return result
}

func (f plain) plus(g plain) plain {
	result := plain{}
	for k, n := range f {
		result[k] += n
	}
	for k, n := range g {
		result[k] += n
	}
	return result
}

func (f plain) times(g plain) plain {
	result := plain{}
	for k, n := range f {
		for l, m := range g {
			result[powers{k[0] + l[0], k[1] + l[1], k[2] + l[2]}] += n * m
		}
	}
	return result
}

// fallingPowers are all powers in the limits, in the order of a polynomial.
func fallingPowers() []powers {
	var list []powers
	for x := 9; x >= 0; x-- {
		for y := 9; y >= 0; y-- {
			for z := 9; z >= 0; z-- {
				list = append(list, powers{x, y, z})
			}
		}
	}
	return list
}

// over returns the polynomial over a field, and whether it is one.
func (f plain) over(p int) (impl.Poly, bool) {
	var result impl.Poly
	for k, n := range f {
		if n = remainder(p, n); n != 0 {
			result = append(result, impl.Term{Powers: k, Times: n})
		}
	}
	if len(result) > 60 {
		return nil, false
	}
	for _, term := range result {
		if slices.Max(term.Powers[:]) > 9 {
			return nil, false
		}
	}
	slices.SortFunc(result, func(a impl.Term, b impl.Term) int { return number(b.Powers) - number(a.Powers) })
	return result, true
}

// number returns exponents of one digit as a number of three.
func number(k powers) int {
	return 100*k[0] + 10*k[1] + k[2]
}

func (f plain) at(p int, point [3]int) int {
	sum := 0
	for k, n := range f {
		for v, exponent := range k {
			n = n % p * powerBySquares(p, point[v], exponent)
		}
		sum += n
	}
	return remainder(p, sum)
}

// A draw gives out numbers that are the same in each run.
type draw uint64

func (d *draw) below(n int) int {
	*d = *d*6364136223846793005 + 1442695040888963407
	return int(uint64(*d) >> 33 % uint64(n))
}

// poly returns a polynomial made of as many terms, with exponents up to a greatest one.
func (d *draw) poly(p int, terms int, greatest int) impl.Poly {
	sum := plain{}
	for range terms {
		k := powers{d.below(greatest + 1), d.below(greatest + 1), d.below(greatest + 1)}
		sum[k] += 1 + d.below(p)
	}
	f, ok := sum.over(p)
	if !ok {
		panic("no polynomial is drawn")
	}
	return f
}

// line returns the sum of the powers of an unknown from the exponent least to greatest.
func line(v int, least int, greatest int) impl.Poly {
	var f impl.Poly
	for n := greatest; n >= least; n-- {
		var k powers
		k[v] = n
		f = append(f, impl.Term{Powers: k, Times: 1})
	}
	return f
}

// first returns the first n terms of the greatest powers there are.
func first(n int) impl.Poly {
	var f impl.Poly
	for _, k := range fallingPowers()[:n] {
		f = append(f, impl.Term{Powers: k, Times: 1})
	}
	return f
}

// read returns the polynomial of a text, which must be one.
func read(t *testing.T, p int, s string) impl.Poly {
	t.Helper()
	f, ok := impl.ParsePoly(p, s)
	if !ok {
		t.Fatalf("ParsePoly(%d, %q) = %v, false", p, s, f)
	}
	return f
}

// expectPoly checks a result that is a polynomial.
func expectPoly(t *testing.T, name string, got impl.Poly, ok bool, want impl.Poly) {
	t.Helper()
	if !ok || !slices.Equal(got, want) {
		t.Errorf("%s = %v, %v, want %v", name, got, ok, want)
	}
}

// expectNone checks a result that is none.
func expectNone(t *testing.T, name string, got impl.Poly, ok bool) {
	t.Helper()
	if ok || len(got) != 0 {
		t.Errorf("%s = %v, %v, want no terms and false", name, got, ok)
	}
}

// expectPlain checks a result against a plain polynomial, which may be none within the limits.
func expectPlain(t *testing.T, name string, p int, got impl.Poly, ok bool, want plain) {
	t.Helper()
	if f, isPoly := want.over(p); isPoly {
		expectPoly(t, name, got, ok, f)
	} else {
		expectNone(t, name, got, ok)
	}
}

// noPolys are no polynomials over the field of p.
func noPolys(p int) []impl.Poly {
	list := []impl.Poly{
		first(61),
		{{Powers: powers{1, 0, 0}, Times: 1}, {Powers: powers{1, 0, 0}, Times: 1}},
		{{Powers: powers{0, 0, 0}, Times: 1}, {Powers: powers{0, 0, 1}, Times: 1}},
		{{Powers: powers{0, 0, 9}, Times: 1}, {Powers: powers{0, 1, 0}, Times: 1}},
		{{Powers: powers{0, 9, 9}, Times: 1}, {Powers: powers{1, 0, 0}, Times: 1}},
		{{Powers: powers{3, 0, 0}, Times: 1}, {Powers: powers{1, 0, 0}, Times: 1}, {Powers: powers{2, 0, 0}, Times: 1}},
	}
	for _, times := range append(outsideOf(p), 0) {
		list = append(list, impl.Poly{{Times: times}}, impl.Poly{{Powers: powers{1, 0, 0}, Times: 1}, {Times: times}})
	}
	for _, n := range []int{math.MinInt, -1, 10, math.MaxInt} {
		for v := range 3 {
			var k powers
			k[v] = n
			list = append(list, impl.Poly{{Powers: k, Times: 1}})
		}
	}
	return list
}

var noUnknowns = []int{math.MinInt, -1, 3, 4, math.MaxInt}

func TestPolyValid(t *testing.T) {
	if impl.MaxExponent != 9 || impl.MaxTerms != 60 {
		t.Errorf("MaxExponent, MaxTerms = %d, %d", impl.MaxExponent, impl.MaxTerms)
	}
	for _, p := range primes {
		valid := []impl.Poly{
			nil,
			{},
			{{Times: 1}},
			{{Times: p - 1}},
			{{Powers: powers{9, 9, 9}, Times: p - 1}},
			{{Powers: powers{1, 0, 0}, Times: 1}, {Powers: powers{0, 9, 9}, Times: 1}},
			{{Powers: powers{1, 1, 0}, Times: 1}, {Powers: powers{1, 0, 9}, Times: 1}},
			first(59),
			first(60),
		}
		for _, f := range valid {
			if !impl.PolyValid(p, f) {
				t.Errorf("PolyValid(%d, %v) = false", p, f)
			}
		}
		for _, f := range noPolys(p) {
			if impl.PolyValid(p, f) {
				t.Errorf("PolyValid(%d, %v) = true", p, f)
			}
		}
	}
	for _, p := range noPrimes {
		for _, f := range []impl.Poly{nil, {{Times: 1}}} {
			if impl.PolyValid(p, f) {
				t.Errorf("PolyValid(%d, %v) = true", p, f)
			}
		}
	}
}

func TestPolyTexts(t *testing.T) {
	texts := []struct {
		p    int
		text string
		f    impl.Poly
	}{
		{2, "0", nil},
		{2, "1", impl.Poly{{Times: 1}}},
		{5, "4", impl.Poly{{Times: 4}}},
		{13, "12", impl.Poly{{Times: 12}}},
		{13, "10x9y9z9", impl.Poly{{Powers: powers{9, 9, 9}, Times: 10}}},
		{5, "x", impl.Poly{{Powers: powers{1, 0, 0}, Times: 1}}},
		{5, "y", impl.Poly{{Powers: powers{0, 1, 0}, Times: 1}}},
		{5, "z", impl.Poly{{Powers: powers{0, 0, 1}, Times: 1}}},
		{5, "xz2", impl.Poly{{Powers: powers{1, 0, 2}, Times: 1}}},
		{5, "2x2y+3z+1", impl.Poly{{Powers: powers{2, 1, 0}, Times: 2}, {Powers: powers{0, 0, 1}, Times: 3}, {Times: 1}}},
		{11, "x9+10xyz+y9z9+1", impl.Poly{{Powers: powers{9, 0, 0}, Times: 1}, {Powers: powers{1, 1, 1}, Times: 10}, {Powers: powers{0, 9, 9}, Times: 1}, {Times: 1}}},
	}
	for _, c := range texts {
		if got := impl.FormatPoly(c.p, c.f); got != c.text {
			t.Errorf("FormatPoly(%d, %v) = %q, want %q", c.p, c.f, got, c.text)
		}
		got, ok := impl.ParsePoly(c.p, c.text)
		expectPoly(t, "ParsePoly "+c.text, got, ok, c.f)
	}
	d := draw(2)
	for _, p := range primes {
		for n := range 200 {
			f := d.poly(p, n%61, 9)
			got, ok := impl.ParsePoly(p, impl.FormatPoly(p, f))
			expectPoly(t, "ParsePoly of FormatPoly", got, ok, f)
		}
		f, ok := impl.ParsePoly(p, impl.FormatPoly(p, first(60)))
		expectPoly(t, "ParsePoly of 60 terms", f, ok, first(60))
	}
}

func TestTextsThatAreNone(t *testing.T) {
	nearly := []string{
		"", " ", "+", "x+", "+x", "x++1", "-1", "x-1", "00", "01", "0x", "0+1", "x+0", "02x", "1x", "x1", "x0", "x10", "x01", "x-1", "x22",
		"xx", "x2x", "yx", "zx", "x2y2x2", "x+x", "x+x2", "1+x", "z+y", "x+x", "5", "5x", "13", "15", "X", "a", "w", "x^2", "x*y", "2 x", " x", "x ", "x\n",
		"x+y+", "2x2y+3z+1 ", "2x2y+1+3z", "x2y3z4z", "4294967297", "18446744073709551617", "18446744073709551617x", "x18446744073709551617",
		"²", "x²", "x\x00", "\xff", "x\xff", "x2\xf0", "١", "x١", "\u200bx", "x\ufffd",
	}
	for _, s := range nearly {
		f, ok := impl.ParsePoly(5, s)
		expectNone(t, "ParsePoly "+strconv.Quote(s), f, ok)
	}
	var parts []string
	for _, term := range first(61) {
		parts = append(parts, impl.FormatPoly(2, impl.Poly{term}))
	}
	f, ok := impl.ParsePoly(2, strings.Join(parts, "+"))
	expectNone(t, "ParsePoly of 61 terms", f, ok)
	f, ok = impl.ParsePoly(2, strings.Repeat("+", 100000))
	expectNone(t, "ParsePoly of signs", f, ok)
	f, ok = impl.ParsePoly(3, strings.Repeat("1", 100000))
	expectNone(t, "ParsePoly of digits", f, ok)
	for _, p := range noPrimes {
		for _, s := range []string{"", "0", "1", "x", "x+1"} {
			f, ok := impl.ParsePoly(p, s)
			expectNone(t, "ParsePoly without a prime", f, ok)
		}
	}
}

// The text of what ParsePoly returns is the text that it is given, so no
// changed text is taken for another polynomial.
func TestChangedTexts(t *testing.T) {
	const signs = "xyz0123456789+ -"
	d := draw(3)
	read := 0
	for range 20000 {
		p := primes[d.below(len(primes))]
		s := impl.FormatPoly(p, d.poly(p, d.below(4), 9))
		for range 1 + d.below(2) {
			place := d.below(len(s) + 1)
			end := min(len(s), place+d.below(2))
			begin := d.below(len(signs))
			s = s[:place] + signs[begin:begin+d.below(2)] + s[end:]
		}
		f, ok := impl.ParsePoly(p, s)
		if !ok {
			expectNone(t, "ParsePoly "+s, f, ok)
		} else if read++; !impl.PolyValid(p, f) || impl.FormatPoly(p, f) != s {
			t.Errorf("ParsePoly(%d, %q) = %v", p, s, f)
		}
	}
	if read == 0 || read == 20000 {
		t.Errorf("%d of the texts are those of polynomials", read)
	}
}

func TestMakePoly(t *testing.T) {
	d := draw(4)
	for _, p := range primes {
		for n := range 300 {
			list := make([]impl.Term, n%61)
			sum := plain{}
			for i := range list {
				list[i] = impl.Term{Powers: powers{d.below(3), d.below(2), 8 + d.below(2)}, Times: d.below(100) - 50}
				sum[list[i].Powers] += list[i].Times
			}
			got, ok := impl.MakePoly(p, list)
			expectPlain(t, "MakePoly", p, got, ok, sum)
		}
		got, ok := impl.MakePoly(p, nil)
		expectPoly(t, "MakePoly of no terms", got, ok, nil)
		backwards := first(60)
		slices.Reverse(backwards)
		got, ok = impl.MakePoly(p, backwards)
		expectPoly(t, "MakePoly of 60 terms", got, ok, first(60))
		got, ok = impl.MakePoly(p, first(61))
		expectNone(t, "MakePoly of 61 terms", got, ok)
		got, ok = impl.MakePoly(p, make([]impl.Term, 60))
		expectPoly(t, "MakePoly of 60 terms that are 0", got, ok, nil)
		got, ok = impl.MakePoly(p, make([]impl.Term, 61))
		expectNone(t, "MakePoly of 61 terms that are 0", got, ok)
		for _, times := range []int{math.MinInt, math.MinInt + 1, -p, -1, 0, p, math.MaxInt} {
			got, ok = impl.MakePoly(p, []impl.Term{{Times: times}, {Times: times}})
			expectPlain(t, "MakePoly of great Times", p, got, ok, plain{powers{}: 2 * remainder(p, times)})
		}
		for _, n := range []int{math.MinInt, -1, 10, math.MaxInt} {
			for _, times := range []int{0, 1, p} {
				for v := range 3 {
					term := impl.Term{Times: times}
					term.Powers[v] = n
					got, ok = impl.MakePoly(p, []impl.Term{{Times: 1}, term})
					expectNone(t, "MakePoly of exponents beyond the limits", got, ok)
				}
			}
		}
	}
	for _, p := range noPrimes {
		for _, list := range [][]impl.Term{nil, {{Times: 1}}} {
			got, ok := impl.MakePoly(p, list)
			expectNone(t, "MakePoly without a prime", got, ok)
		}
	}
}

func TestSumsOfPolys(t *testing.T) {
	d := draw(5)
	for _, p := range primes {
		for n := range 300 {
			f := d.poly(p, n%61, 1+n%9)
			g := d.poly(p, d.below(61), 1+n%9)
			got, ok := impl.AddPoly(p, f, g)
			expectPlain(t, "AddPoly", p, got, ok, plainOf(f).plus(plainOf(g)))
			minus, ok := impl.ScalePoly(p, f, p-1)
			if !ok {
				t.Errorf("ScalePoly(%d, %v, %d) = %v, false", p, f, p-1, minus)
			}
			got, ok = impl.AddPoly(p, f, minus)
			expectPoly(t, "AddPoly of f and minus f", got, ok, nil)
		}
		all := first(61)
		got, ok := impl.AddPoly(p, all[30:60], all[:30])
		expectPoly(t, "AddPoly with 60 terms", got, ok, all[:60])
		got, ok = impl.AddPoly(p, all[:60], all[60:])
		expectNone(t, "AddPoly with 61 terms", got, ok)
		got, ok = impl.AddPoly(p, all[60:], all[:60])
		expectNone(t, "AddPoly with 61 terms", got, ok)
	}
	got, ok := impl.AddPoly(5, read(t, 5, "2x2y+3z+1"), read(t, 5, "3x2y"))
	expectPoly(t, "AddPoly with a term that falls away", got, ok, read(t, 5, "3z+1"))
	// More than 60 terms before the last ones fall away are no result on the way.
	f, _ := impl.ScalePoly(3, first(60), 2)
	got, ok = impl.AddPoly(3, first(60), append(slices.Clone(f[:59]), impl.Term{Times: 1}))
	expectPoly(t, "AddPoly of terms that fall away", got, ok, impl.Poly{first(60)[59], {Times: 1}})
}

func TestProductsOfPolys(t *testing.T) {
	d := draw(6)
	for _, p := range primes {
		for n := range 400 {
			greatest := 1 + n%6
			f := d.poly(p, d.below(14), greatest)
			g := d.poly(p, d.below(14), greatest)
			got, ok := impl.MulPoly(p, f, g)
			want := plainOf(f).times(plainOf(g))
			expectPlain(t, "MulPoly", p, got, ok, want)
		}
		for v := range 3 {
			got, ok := impl.MulPoly(p, line(v, 5, 5), line(v, 4, 4))
			expectPoly(t, "MulPoly with the exponent 9", got, ok, line(v, 9, 9))
			got, ok = impl.MulPoly(p, line(v, 5, 5), line(v, 5, 5))
			expectNone(t, "MulPoly with the exponent 10", got, ok)
			got, ok = impl.MulPoly(p, line(v, 0, 9), line(v, 0, 1))
			expectNone(t, "MulPoly with exponents to 10", got, ok)
			got, ok = impl.MulPoly(p, line(v, 9, 9), nil)
			expectPoly(t, "MulPoly of 0", got, ok, nil)
		}
		got, ok := impl.MulPoly(p, line(0, 0, 9), line(1, 0, 5))
		expectPlain(t, "MulPoly with 60 terms", p, got, ok, plainOf(line(0, 0, 9)).times(plainOf(line(1, 0, 5))))
		if len(got) != 60 {
			t.Errorf("MulPoly with 60 terms has %d", len(got))
		}
		got, ok = impl.MulPoly(p, line(0, 0, 9), line(1, 0, 6))
		expectNone(t, "MulPoly with 70 terms", got, ok)
		got, ok = impl.MulPoly(p, first(60), impl.Poly{{Times: p - 1}})
		if !ok || len(got) != 60 {
			t.Errorf("MulPoly of 60 terms and an element = %v, %v", got, ok)
		}
	}
	got, ok := impl.MulPoly(5, read(t, 5, "x+1"), read(t, 5, "x+4"))
	expectPoly(t, "MulPoly", got, ok, read(t, 5, "x2+4"))
}

func TestProductWith61Terms(t *testing.T) {
	f := read(t, 2, "x5+x4+x3+x2+x+z+1")
	g := read(t, 2, "y7+y6+y5+y4+y3+y2+y+z+1")
	if n := termsOver(2, plainOf(f).times(plainOf(g))); n != 61 {
		t.Fatalf("the product has %d terms", n)
	}
	got, ok := impl.MulPoly(2, f, g)
	expectNone(t, "MulPoly with 61 terms", got, ok)
}

// termsOver returns how many terms are left over a field, with any exponents.
func termsOver(p int, f plain) int {
	count := 0
	for _, n := range f {
		if remainder(p, n) != 0 {
			count++
		}
	}
	return count
}

// A square over the field of 2 has no more terms than what is squared, although
// the sums of its first products have far more: they are no results on the way.
func TestProductOfWhichMostFallsAway(t *testing.T) {
	d := draw(7)
	for range 20 {
		f := d.poly(2, 60, 4)
		want := impl.Poly{}
		for _, term := range f {
			k := term.Powers
			want = append(want, impl.Term{Powers: powers{2 * k[0], 2 * k[1], 2 * k[2]}, Times: 1})
		}
		got, ok := impl.MulPoly(2, f, f)
		expectPoly(t, "MulPoly of f and f over 2", got, ok, want)
	}
}

func TestScaledPolys(t *testing.T) {
	d := draw(8)
	for _, p := range primes {
		for n := range 61 {
			f := d.poly(p, n, 9)
			for a := range p {
				got, ok := impl.ScalePoly(p, f, a)
				expectPlain(t, "ScalePoly", p, got, ok, plainOf(f).times(plain{powers{}: a}))
			}
			for _, a := range outsideOf(p) {
				got, ok := impl.ScalePoly(p, f, a)
				expectNone(t, "ScalePoly", got, ok)
			}
		}
		got, ok := impl.ScalePoly(p, first(60), 0)
		expectPoly(t, "ScalePoly with 0", got, ok, nil)
	}
}

// derivedPlain returns the derivative of a polynomial by an unknown.
func derivedPlain(f impl.Poly, v int) plain {
	result := plain{}
	for _, term := range f {
		if k := term.Powers; k[v] > 0 {
			k[v]--
			result[k] = term.Times * term.Powers[v]
		}
	}
	return result
}

func TestDerivatives(t *testing.T) {
	d := draw(9)
	for _, p := range primes {
		for n := range 300 {
			f := d.poly(p, n%61, 9)
			for v := range 3 {
				got, ok := impl.DerivePoly(p, f, v)
				expectPlain(t, "DerivePoly", p, got, ok, derivedPlain(f, v))
			}
		}
		for v := range 3 {
			for n := range 10 {
				got, ok := impl.DerivePoly(p, line(v, n, n), v)
				if (n%p == 0) != (len(got) == 0) || !ok {
					t.Errorf("the derivative of the power %d over %d = %v, %v", n, p, got, ok)
				}
				got, ok = impl.DerivePoly(p, line(v, n, n), (v+1)%3)
				expectPoly(t, "DerivePoly by another unknown", got, ok, nil)
			}
			got, ok := impl.DerivePoly(p, nil, v)
			expectPoly(t, "DerivePoly of 0", got, ok, nil)
		}
		for _, v := range noUnknowns {
			for _, f := range []impl.Poly{nil, {{Times: 1}}, first(60)} {
				got, ok := impl.DerivePoly(p, f, v)
				expectNone(t, "DerivePoly by no unknown", got, ok)
			}
		}
	}
	f := read(t, 3, "x9+x6y3z+2x4+x3y+2x2+1")
	for v, want := range []string{"2x3+x", "x3", "x6y3"} {
		got, ok := impl.DerivePoly(3, f, v)
		expectPoly(t, "DerivePoly", got, ok, read(t, 3, want))
	}
}

// The derivative of a product is one factor times the derivative of the other, for both.
func TestDerivativesOfProducts(t *testing.T) {
	d := draw(10)
	for range 300 {
		p := primes[d.below(len(primes))]
		f, g, v := d.poly(p, 5, 3), d.poly(p, 5, 3), d.below(3)
		product, _ := impl.MulPoly(p, f, g)
		got, ok := impl.DerivePoly(p, product, v)
		df, _ := impl.DerivePoly(p, f, v)
		dg, _ := impl.DerivePoly(p, g, v)
		want := plainOf(df).times(plainOf(g)).plus(plainOf(f).times(plainOf(dg)))
		expectPlain(t, "DerivePoly of a product", p, got, ok, want)
	}
}

func TestParts(t *testing.T) {
	d := draw(11)
	for _, p := range primes {
		for n := range 61 {
			f := d.poly(p, n, 9)
			count := 0
			for k := -3; k <= 30; k++ {
				var want impl.Poly
				for _, term := range f {
					if term.Powers[0]+term.Powers[1]+term.Powers[2] == k {
						want = append(want, term)
					}
				}
				got, ok := impl.PartPoly(p, f, k)
				expectPoly(t, "PartPoly", got, ok, want)
				count += len(got)
			}
			if count != len(f) {
				t.Errorf("the parts of %v have %d terms", f, count)
			}
			for _, k := range []int{math.MinInt, math.MaxInt} {
				got, ok := impl.PartPoly(p, f, k)
				expectPoly(t, "PartPoly", got, ok, nil)
			}
		}
	}
}

func TestDegrees(t *testing.T) {
	for _, p := range primes {
		if got := impl.DegreeOf(p, nil); got != -1 {
			t.Errorf("DegreeOf(%d, nil) = %d, want -1", p, got)
		}
		if got := impl.DegreeOf(p, impl.Poly{{Times: 1}}); got != 0 {
			t.Errorf("DegreeOf(%d, 1) = %d, want 0", p, got)
		}
		if got := impl.DegreeOf(p, read(t, p, "x9y9z9+1")); got != 27 {
			t.Errorf("DegreeOf(%d, x9y9z9+1) = %d, want 27", p, got)
		}
		f := read(t, p, "x2y+xz7+y5z+z")
		if got := impl.DegreeOf(p, f); got != 8 {
			t.Errorf("DegreeOf(%d, f) = %d, want 8", p, got)
		}
		for v, want := range []int{2, 5, 7} {
			if got := impl.DegreeIn(p, f, v); got != want {
				t.Errorf("DegreeIn(%d, f, %d) = %d, want %d", p, v, got, want)
			}
			if got := impl.DegreeIn(p, nil, v); got != -1 {
				t.Errorf("DegreeIn(%d, nil, %d) = %d, want -1", p, v, got)
			}
			if got := impl.DegreeIn(p, impl.Poly{{Times: 1}}, v); got != 0 {
				t.Errorf("DegreeIn(%d, 1, %d) = %d, want 0", p, v, got)
			}
		}
		for _, v := range noUnknowns {
			for _, g := range []impl.Poly{nil, f} {
				if got := impl.DegreeIn(p, g, v); got != -2 {
					t.Errorf("DegreeIn(%d, %v, %d) = %d, want -2", p, g, v, got)
				}
			}
		}
	}
}

func TestValues(t *testing.T) {
	d := draw(12)
	for _, p := range primes {
		for n := range 61 {
			f := d.poly(p, n, 9)
			for range 20 {
				at := [3]int{d.below(p), d.below(p), d.below(p)}
				if got, want := impl.EvalPoly(p, f, at), plainOf(f).at(p, at); got != want {
					t.Errorf("EvalPoly(%d, %v, %v) = %d, want %d", p, f, at, got, want)
				}
			}
			// At zeros, only the term without unknowns counts.
			want := 0
			if n > 0 && len(f) > 0 && f[len(f)-1].Powers == (powers{}) {
				want = f[len(f)-1].Times
			}
			if got := impl.EvalPoly(p, f, [3]int{}); got != want {
				t.Errorf("EvalPoly(%d, %v, zeros) = %d, want %d", p, f, got, want)
			}
		}
		for _, a := range outsideOf(p) {
			for v := range 3 {
				var at [3]int
				at[v] = a
				for _, f := range []impl.Poly{nil, {{Times: 1}}, first(3)} {
					if got := impl.EvalPoly(p, f, at); got != -1 {
						t.Errorf("EvalPoly(%d, %v, %v) = %d, want -1", p, f, at, got)
					}
				}
			}
		}
	}
	if got := impl.EvalPoly(5, read(t, 5, "2x2y+3z+1"), [3]int{1, 2, 3}); got != 4 {
		t.Errorf("EvalPoly = %d, want 4", got)
	}
}

func TestValuesFollow(t *testing.T) {
	d := draw(13)
	for _, p := range []int{2, 3, 5} {
		for range 20 {
			f, g := d.poly(p, 5, 4), d.poly(p, 5, 4)
			sum, added := impl.AddPoly(p, f, g)
			product, multiplied := impl.MulPoly(p, f, g)
			if !added || !multiplied {
				t.Fatalf("no sum or product of %v and %v", f, g)
			}
			for n := range p * p * p {
				at := [3]int{n / p / p, n / p % p, n % p}
				a, b := impl.EvalPoly(p, f, at), impl.EvalPoly(p, g, at)
				if got := impl.EvalPoly(p, sum, at); got != impl.AddIn(p, a, b) {
					t.Errorf("the sum of %v and %v is %d at %v", f, g, got, at)
				}
				if got := impl.EvalPoly(p, product, at); got != impl.MulIn(p, a, b) {
					t.Errorf("the product of %v and %v is %d at %v", f, g, got, at)
				}
			}
		}
	}
}

// putStepByStep is the way to PutPoly that the document tells, with plain polynomials.
func putStepByStep(p int, f impl.Poly, v int, g impl.Poly) (impl.Poly, bool) {
	var sum impl.Poly
	for _, term := range f {
		times := term.Powers[v]
		term.Powers[v] = 0
		product := impl.Poly{term}
		ok := true
		for range times {
			if product, ok = plainOf(product).times(plainOf(g)).over(p); !ok {
				return nil, false
			}
		}
		if sum, ok = plainOf(sum).plus(plainOf(product)).over(p); !ok {
			return nil, false
		}
	}
	return sum, true
}

func TestPutPoly(t *testing.T) {
	d := draw(14)
	put := 0
	for _, p := range primes {
		for n := range 150 {
			f := d.poly(p, n%12, 1+d.below(4))
			g := d.poly(p, d.below(5), 1+d.below(2))
			v := d.below(3)
			got, ok := impl.PutPoly(p, f, v, g)
			want, isPoly := putStepByStep(p, f, v, g)
			if !isPoly {
				expectNone(t, "PutPoly", got, ok)
				continue
			}
			put++
			expectPoly(t, "PutPoly", got, ok, want)
			for range 10 {
				at := [3]int{d.below(p), d.below(p), d.below(p)}
				moved := at
				moved[v] = impl.EvalPoly(p, g, at)
				if impl.EvalPoly(p, got, at) != impl.EvalPoly(p, f, moved) {
					t.Errorf("PutPoly(%d, %v, %d, %v) has another value at %v", p, f, v, g, at)
				}
			}
		}
	}
	if put == 0 || put == 6*150 {
		t.Errorf("%d polynomials of %d were put", put, 6*150)
	}
	known := []struct{ f, g, want string }{
		{"x2", "y+1", "y2+2y+1"},
		{"2x2y+3z+1", "x2", "2x4y+3z+1"},
		{"2x2y+3z+1", "0", "3z+1"},
		{"x", "x", "x"},
		{"y2+z", "x9", "y2+z"},
		{"0", "x9", "0"},
		{"x+4y", "y", "0"},
		{"x9", "x", "x9"},
		{"x9", "4", "4"},
		{"x3", "x3", "x9"},
		{"x3", "x4", ""},
		{"xy9", "y", ""},
		{"x2+4xy5", "y5", ""},
	}
	for _, c := range known {
		got, ok := impl.PutPoly(5, read(t, 5, c.f), 0, read(t, 5, c.g))
		if c.want == "" {
			expectNone(t, "PutPoly "+c.g+" in "+c.f, got, ok)
		} else {
			expectPoly(t, "PutPoly "+c.g+" in "+c.f, got, ok, read(t, 5, c.want))
		}
	}
}

// The products on the way count: over the field of 2, the powers 2 and 4 of a
// polynomial have as many terms as it has, and the power 3 may have far more.
func TestPutPolyMultipliesOneByOne(t *testing.T) {
	g := read(t, 2, "x2y2z2+x2y+x2z2+xy2z+xyz+x+y2z2+y2+yz2+z+1")
	cube := plainOf(g).times(plainOf(g)).times(plainOf(g))
	if n := termsOver(2, cube); n <= 60 {
		t.Fatalf("the power 3 has %d terms", n)
	}
	square, ok := impl.PutPoly(2, read(t, 2, "x2"), 0, g)
	expectPlain(t, "PutPoly in x2", 2, square, ok, plainOf(g).times(plainOf(g)))
	fourth, ok := impl.MulPoly(2, square, square)
	expectPlain(t, "MulPoly of squares", 2, fourth, ok, cube.times(plainOf(g)))
	if len(fourth) != len(g) {
		t.Errorf("the power 4 has %d terms", len(fourth))
	}
	got, ok := impl.PutPoly(2, read(t, 2, "x4"), 0, g)
	expectNone(t, "PutPoly in x4", got, ok)
}

// The sums on the way count too, in the order of the terms.
func TestPutPolyAddsOneByOne(t *testing.T) {
	for _, p := range primes {
		g := first(60)
		f := read(t, p, "z+1")
		got, ok := impl.PutPoly(p, f, 2, g)
		expectNone(t, "PutPoly with 61 terms", got, ok)
		// Here the last term of g falls away before the last one of f is added.
		f = append(impl.Poly{{Powers: g[59].Powers, Times: p - 1}}, f...)
		got, ok = impl.PutPoly(p, f, 2, g)
		want := append(slices.Clone(g[:59]), impl.Term{Times: 1})
		expectPoly(t, "PutPoly with 60 terms", got, ok, want)
		// Here a term of g falls away only after one of f has been added.
		g = impl.Poly{}
		for n := 98; n >= 40; n-- {
			g = append(g, impl.Term{Powers: powers{0, n / 10, n % 10}, Times: 1})
		}
		g = append(g, impl.Term{Times: 1})
		f = impl.Poly{{Powers: powers{1, 0, 0}, Times: 1}, {Powers: powers{0, 9, 9}, Times: 1}, {Powers: powers{0, 9, 8}, Times: p - 1}}
		if n := termsOver(p, plainOf(g).plus(plainOf(f[1:]))); len(g) != 60 || n != 60 {
			t.Fatalf("%d terms make %d", len(g), n)
		}
		got, ok = impl.PutPoly(p, f, 0, g)
		expectNone(t, "PutPoly with 61 terms on the way", got, ok)
	}
}

// expectNoResults checks all functions for an f that is no polynomial over the field of p.
func expectNoResults(t *testing.T, p int, f impl.Poly) {
	t.Helper()
	if impl.PolyValid(p, f) {
		t.Errorf("PolyValid(%d, %v) = true", p, f)
	}
	if got := impl.FormatPoly(p, f); got != "" {
		t.Errorf("FormatPoly(%d, %v) = %q", p, f, got)
	}
	for _, g := range []impl.Poly{nil, {{Times: 1}}, f} {
		got, ok := impl.AddPoly(p, f, g)
		expectNone(t, "AddPoly", got, ok)
		got, ok = impl.AddPoly(p, g, f)
		expectNone(t, "AddPoly", got, ok)
		got, ok = impl.MulPoly(p, f, g)
		expectNone(t, "MulPoly", got, ok)
		got, ok = impl.MulPoly(p, g, f)
		expectNone(t, "MulPoly", got, ok)
		for v := range 3 {
			got, ok = impl.PutPoly(p, f, v, g)
			expectNone(t, "PutPoly", got, ok)
			got, ok = impl.PutPoly(p, g, v, f)
			expectNone(t, "PutPoly", got, ok)
		}
	}
	for n := range 3 {
		got, ok := impl.ScalePoly(p, f, n)
		expectNone(t, "ScalePoly", got, ok)
		got, ok = impl.DerivePoly(p, f, n)
		expectNone(t, "DerivePoly", got, ok)
		got, ok = impl.PartPoly(p, f, n)
		expectNone(t, "PartPoly", got, ok)
		if got := impl.DegreeIn(p, f, n); got != -2 {
			t.Errorf("DegreeIn(%d, %v, %d) = %d, want -2", p, f, n, got)
		}
	}
	if got := impl.DegreeOf(p, f); got != -2 {
		t.Errorf("DegreeOf(%d, %v) = %d, want -2", p, f, got)
	}
	for _, at := range [][3]int{{0, 0, 0}, {1, 1, 1}} {
		if got := impl.EvalPoly(p, f, at); got != -1 {
			t.Errorf("EvalPoly(%d, %v, %v) = %d, want -1", p, f, at, got)
		}
	}
}

func TestInvalidPolys(t *testing.T) {
	for _, p := range noPrimes {
		for _, f := range []impl.Poly{nil, {{Times: 1}}, {{Powers: powers{1, 0, 0}, Times: 1}, {Times: 1}}} {
			expectNoResults(t, p, f)
		}
	}
	for _, p := range primes {
		for _, f := range noPolys(p) {
			expectNoResults(t, p, f)
		}
		for _, v := range noUnknowns {
			for _, f := range []impl.Poly{nil, {{Times: 1}}, {{Powers: powers{1, 0, 0}, Times: 1}}} {
				got, ok := impl.PutPoly(p, f, v, impl.Poly{{Times: 1}})
				expectNone(t, "PutPoly for no unknown", got, ok)
			}
		}
	}
}

// expectNew checks that a call returns a slice that shares no memory with those
// that it returns another time.
func expectNew[S ~[]E, E comparable](t *testing.T, name string, junk E, call func() (S, bool)) {
	t.Helper()
	result, ok := call()
	if !ok {
		t.Fatalf("%s returned false", name)
	}
	want := slices.Clone(result)
	other, _ := call()
	for i := range result[:cap(result)] {
		result[:cap(result)][i] = junk
	}
	third, _ := call()
	if !slices.Equal(other, want) || !slices.Equal(third, want) {
		t.Errorf("%s: another result changed: %v, %v", name, other, third)
	}
}

func expectNewPolys(t *testing.T, name string, call func() (impl.Poly, bool)) {
	t.Helper()
	expectNew(t, name, impl.Term{Powers: powers{-8, -8, -8}, Times: -8}, call)
}

func TestPolysShareNoMemory(t *testing.T) {
	junk := impl.Term{Powers: powers{-7, -7, -7}, Times: -7}
	full := impl.Poly{{Powers: powers{1, 1, 0}, Times: 2}, {Powers: powers{0, 1, 0}, Times: 1}, {Times: 4}, junk, junk}
	f := full[:3]
	before := slices.Clone(full)
	empty := full[3:3]
	calls := map[string]func() (impl.Poly, bool){
		"ParsePoly":           func() (impl.Poly, bool) { return impl.ParsePoly(5, "2xy+y+4") },
		"MakePoly":            func() (impl.Poly, bool) { return impl.MakePoly(5, f) },
		"AddPoly":             func() (impl.Poly, bool) { return impl.AddPoly(5, f, f) },
		"AddPoly of f and 0":  func() (impl.Poly, bool) { return impl.AddPoly(5, f, empty) },
		"AddPoly of 0 and f":  func() (impl.Poly, bool) { return impl.AddPoly(5, empty, f) },
		"AddPoly of 0 and 0":  func() (impl.Poly, bool) { return impl.AddPoly(5, empty, empty) },
		"MulPoly":             func() (impl.Poly, bool) { return impl.MulPoly(5, f, f) },
		"MulPoly of f and 1":  func() (impl.Poly, bool) { return impl.MulPoly(5, f, impl.Poly{{Times: 1}}) },
		"MulPoly of f and 0":  func() (impl.Poly, bool) { return impl.MulPoly(5, f, empty) },
		"ScalePoly by 1":      func() (impl.Poly, bool) { return impl.ScalePoly(5, f, 1) },
		"ScalePoly by 0":      func() (impl.Poly, bool) { return impl.ScalePoly(5, f, 0) },
		"DerivePoly":          func() (impl.Poly, bool) { return impl.DerivePoly(5, f, 1) },
		"PartPoly":            func() (impl.Poly, bool) { return impl.PartPoly(5, f[1:2], 1) },
		"PutPoly":             func() (impl.Poly, bool) { return impl.PutPoly(5, f, 0, f) },
		"PutPoly without one": func() (impl.Poly, bool) { return impl.PutPoly(5, f, 2, f) },
		"PutPoly in x":        func() (impl.Poly, bool) { return impl.PutPoly(5, impl.Poly{{Powers: powers{1, 0, 0}, Times: 1}}, 0, f) },
	}
	for name, call := range calls {
		expectNewPolys(t, name, call)
		if !slices.Equal(full, before) {
			t.Fatalf("%s shares memory with its argument or changes it: %v", name, full)
		}
	}
}
