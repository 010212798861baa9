package tests

import (
	"math"
	"slices"
	"sync"
	"testing"

	"loop.example/polycircuits/impl"
)

// shortLines are how many elements the lines have that are all tried over the
// field of a prime.
var shortLines = map[int]int{2: 6, 3: 4, 5: 2, 7: 2, 11: 1, 13: 1}

// lineNumbered returns the line whose elements are the digits of a number, that
// of the power 0 counting least. Each line is that of just one number.
func lineNumbered(p int, number int) []int {
	var f []int
	for ; number > 0; number /= p {
		f = append(f, number%p)
	}
	return f
}

// numberOfLine returns the number whose digits are the elements of a line.
func numberOfLine(p int, f []int) int {
	number := 0
	for i := len(f) - 1; i >= 0; i-- {
		number = number*p + f[i]
	}
	return number
}

// linesUpTo returns all lines of at most so many elements, each at its number.
func linesUpTo(p int, elements int) [][]int {
	var list [][]int
	for number := range wholePower(p, elements) {
		list = append(list, lineNumbered(p, number))
	}
	return list
}

// wholePower returns the product of n factors.
func wholePower(factor int, n int) int {
	product := 1
	for range n {
		product *= factor
	}
	return product
}

// overLine returns the line that whole numbers are before powers.
func overLine(p int, f []int) []int {
	var result []int
	zeros := 0
	for _, n := range f {
		zeros++
		if a := remainder(p, n); a != 0 {
			result = append(append(result, make([]int, zeros-1)...), a)
			zeros = 0
		}
	}
	return result
}

// lineSum returns a line plus as often another one as a number tells.
func lineSum(p int, f []int, g []int, times int) []int {
	sum := make([]int, max(len(f), len(g)))
	for i, a := range f {
		sum[i] += a
	}
	for i, a := range g {
		sum[i] += times * a
	}
	return overLine(p, sum)
}

// lineProduct returns the product of two lines, which may be too long for one.
func lineProduct(p int, f []int, g []int) []int {
	product := make([]int, len(f)+len(g))
	for i, a := range f {
		for k, b := range g {
			product[i+k] += a * b
		}
	}
	return overLine(p, product)
}

// lineValue returns the value of a line, as a sum of powers.
func lineValue(p int, f []int, a int) int {
	sum := 0
	for n, b := range f {
		sum += b * powerBySquares(p, a, n)
	}
	return sum % p
}

// divisionBySteps returns the quotient and the rest of a division, made by
// taking multiples away, at each step the one that makes what is left shorter.
// It takes as many steps for results of the program that are no lines.
func divisionBySteps(p int, f []int, g []int) ([]int, []int) {
	var quotient []int
	for shift := len(f) - len(g); shift >= 0; shift-- {
		for a := range p {
			part := append(make([]int, shift), a)
			if left := lineSum(p, f, lineProduct(p, part, g), -1); len(left) < shift+len(g) {
				quotient, f = lineSum(p, quotient, part, 1), left
				break
			}
		}
	}
	return quotient, f
}

// madeFromTheEnd returns the greatest common divisor of two lines that are not
// both 0, and what it is made of, found from the last division on: where it is
// a times g plus b times the rest, it is b times f plus a minus b times the
// quotient, times g.
func madeFromTheEnd(p int, f []int, g []int) (divisor []int, first []int, second []int) {
	if len(g) == 0 {
		inverse := powerBySquares(p, f[len(f)-1], p-2)
		return lineSum(p, nil, f, inverse), []int{inverse}, nil
	}
	quotient, rest := divisionBySteps(p, f, g)
	divisor, a, b := madeFromTheEnd(p, g, rest)
	return divisor, b, lineSum(p, a, lineProduct(p, quotient, b), -1)
}

// line returns a line of so many elements.
func (d *draw) line(p int, elements int) []int {
	f := make([]int, elements)
	for i := range f {
		f[i] = d.below(p)
	}
	if elements > 0 {
		f[elements-1] = 1 + d.below(p-1)
	}
	return f
}

// sparseLine returns a line of so many elements, most of which are 0.
func (d *draw) sparseLine(p int, elements int) []int {
	f := d.line(p, elements)
	for i := range max(elements-1, 0) {
		f[i] *= max(d.below(4)-2, 0)
	}
	return f
}

// eachLength draws two lines of all numbers of elements over all fields.
func eachLength(seed draw, check func(d *draw, p int, f []int, g []int)) {
	d := seed
	for _, p := range primes {
		for lengths := range 11 * 11 {
			for range 3 {
				check(&d, p, d.line(p, lengths/11), d.line(p, lengths%11))
				check(&d, p, d.sparseLine(p, lengths/11), d.sparseLine(p, lengths%11))
			}
		}
	}
}

// eachPair tells all pairs of short lines over all fields.
func eachPair(check func(p int, f []int, g []int)) {
	for _, p := range primes {
		lines := linesUpTo(p, shortLines[p])
		for _, f := range lines {
			for _, g := range lines {
				check(p, f, g)
			}
		}
	}
}

// expectLine checks a result that is a line.
func expectLine(t *testing.T, name string, got []int, ok bool, want []int) {
	t.Helper()
	if !ok || !slices.Equal(got, want) {
		t.Errorf("%s = %v, %v, want %v", name, got, ok, want)
	}
}

// expectNoLine checks a result that is none.
func expectNoLine(t *testing.T, name string, got []int, ok bool) {
	t.Helper()
	if ok || len(got) != 0 {
		t.Errorf("%s = %v, %v, want no elements and false", name, got, ok)
	}
}

// expectTwoLines checks a result that is two lines.
func expectTwoLines(t *testing.T, name string, a []int, b []int, ok bool, first []int, second []int) {
	t.Helper()
	if !ok || !slices.Equal(a, first) || !slices.Equal(b, second) {
		t.Errorf("%s = %v, %v, %v, want %v and %v", name, a, b, ok, first, second)
	}
}

// expectNoTwoLines checks a result of two that is none.
func expectNoTwoLines(t *testing.T, name string, a []int, b []int, ok bool) {
	t.Helper()
	if ok || len(a) != 0 || len(b) != 0 {
		t.Errorf("%s = %v, %v, %v, want no elements and false", name, a, b, ok)
	}
}

// expectDivided checks the division of a line: its results are told by what
// they make and by the degree of the rest.
func expectDivided(t *testing.T, p int, f []int, g []int) {
	t.Helper()
	quotient, rest, ok := impl.DivideLine(p, f, g)
	if len(g) == 0 {
		expectNoTwoLines(t, "DivideLine by 0", quotient, rest, ok)
		return
	}
	if !ok || !impl.LineValid(p, quotient) || !impl.LineValid(p, rest) || len(rest) >= len(g) {
		t.Errorf("DivideLine(%d, %v, %v) = %v, %v, %v", p, f, g, quotient, rest, ok)
	}
	if made := lineSum(p, lineProduct(p, quotient, g), rest, 1); !slices.Equal(made, f) {
		t.Errorf("DivideLine(%d, %v, %v) = %v, %v, which make %v", p, f, g, quotient, rest, made)
	}
}

// expectMade checks the greatest common divisor of two lines and what it is
// made of.
func expectMade(t *testing.T, p int, f []int, g []int) {
	t.Helper()
	divisor, isLine := impl.GcdLine(p, f, g)
	a, b, ok := impl.BezoutLine(p, f, g)
	if len(f) == 0 && len(g) == 0 {
		expectLine(t, "GcdLine of 0 and 0", divisor, isLine, nil)
		expectNoTwoLines(t, "BezoutLine of 0 and 0", a, b, ok)
		return
	}
	want, first, second := madeFromTheEnd(p, f, g)
	if !isLine || !slices.Equal(divisor, want) {
		t.Errorf("GcdLine(%d, %v, %v) = %v, %v, want %v", p, f, g, divisor, isLine, want)
	}
	if !ok || !slices.Equal(a, first) || !slices.Equal(b, second) {
		t.Errorf("BezoutLine(%d, %v, %v) = %v, %v, %v, want %v, %v", p, f, g, a, b, ok, first, second)
	}
	if made := lineSum(p, lineProduct(p, a, f), lineProduct(p, b, g), 1); !slices.Equal(made, divisor) {
		t.Errorf("BezoutLine(%d, %v, %v) = %v, %v, which make %v, where GcdLine = %v", p, f, g, a, b, made, divisor)
	}
	for _, divided := range [][]int{f, g} {
		if _, rest := divisionBySteps(p, divided, divisor); len(rest) != 0 {
			t.Errorf("GcdLine(%d, %v, %v) = %v, which does not divide %v", p, f, g, divisor, divided)
		}
	}
}

// The example of the chapter.
func TestSquareMinusOne(t *testing.T) {
	square := []int{4, 0, 1}
	list, ok := impl.FactorLine(5, square)
	if len(list) != 2 || !slices.Equal(list[0], []int{1, 1}) || !slices.Equal(list[1], []int{4, 1}) || !ok {
		t.Errorf("FactorLine = %v, %v", list, ok)
	}
	for _, divisor := range [][]int{{1, 1}, {4, 1}} {
		quotient, rest, ok := impl.DivideLine(5, square, divisor)
		expectTwoLines(t, "DivideLine", quotient, rest, ok, lineSum(5, []int{0, 2}, divisor, -1), nil)
	}
}

func TestLineValid(t *testing.T) {
	if impl.MaxLine != 9 {
		t.Errorf("MaxLine = %d", impl.MaxLine)
	}
	for _, p := range primes {
		for chosen := range wholePower(p+2, 3) {
			list := []int{chosen%(p+2) - 1, chosen/(p+2)%(p+2) - 1, chosen/(p+2)/(p+2) - 1}
			for length := range 4 {
				f := list[:length]
				want := length == 0 || slices.Min(f) >= 0 && slices.Max(f) < p && f[length-1] != 0
				if got := impl.LineValid(p, f); got != want {
					t.Errorf("LineValid(%d, %v) = %v", p, f, got)
				}
			}
		}
		for zeros := range 20 {
			for _, last := range []int{1, p - 1} {
				f := append(make([]int, zeros), last)
				if got := impl.LineValid(p, f); got != (zeros <= 9) {
					t.Errorf("LineValid(%d, %v) = %v", p, f, got)
				}
			}
			if f := make([]int, zeros); impl.LineValid(p, f) != (zeros == 0) {
				t.Errorf("LineValid(%d, %v) = %v", p, f, zeros != 0)
			}
		}
		if impl.LineValid(p, slices.Repeat([]int{1}, 1000000)) {
			t.Errorf("LineValid(%d, a million elements) = true", p)
		}
	}
}

func TestAtLine(t *testing.T) {
	check := func(p int, f []int) {
		var zeros []int
		for a := range p {
			want := lineValue(p, f, a)
			if got := impl.AtLine(p, f, a); got != want {
				t.Errorf("AtLine(%d, %v, %d) = %d, want %d", p, f, a, got, want)
			}
			if want == 0 {
				zeros = append(zeros, a)
			}
		}
		if got := impl.ZerosOf(p, f); !slices.Equal(got, zeros) {
			t.Errorf("ZerosOf(%d, %v) = %v, want %v", p, f, got, zeros)
		}
		for _, a := range outsideOf(p) {
			if got := impl.AtLine(p, f, a); got != -1 {
				t.Errorf("AtLine(%d, %v, %d) = %d, want -1", p, f, a, got)
			}
		}
	}
	for _, p := range primes {
		for _, f := range linesUpTo(p, 1+shortLines[p]) {
			check(p, f)
		}
	}
	eachLength(131, func(_ *draw, p int, f []int, g []int) {
		check(p, f)
		check(p, g)
	})
	known := []struct {
		p     int
		f     []int
		a     int
		value int
	}{
		{5, nil, 2, 0}, {5, []int{3}, 0, 3}, {5, []int{3}, 4, 3}, {5, []int{4, 0, 1}, 3, 3}, {5, []int{4, 0, 1}, 1, 0}, {5, []int{1, 2, 3}, 0, 1},
		{5, []int{1, 2, 3}, 1, 1}, {5, []int{1, 2, 3}, 2, 2}, {2, slices.Repeat([]int{1}, 10), 1, 0}, {13, slices.Repeat([]int{12}, 10), 1, 3},
		{13, []int{0, 0, 0, 0, 0, 0, 0, 0, 0, 1}, 2, 5}, {11, []int{10, 0, 0, 0, 0, 0, 0, 0, 0, 1}, 2, 5},
	}
	for _, k := range known {
		if got := impl.AtLine(k.p, k.f, k.a); got != k.value {
			t.Errorf("AtLine(%d, %v, %d) = %d, want %d", k.p, k.f, k.a, got, k.value)
		}
	}
}

func TestZerosOf(t *testing.T) {
	known := []struct {
		p    int
		f    []int
		want []int
	}{
		{5, []int{4, 0, 1}, []int{1, 4}}, {5, []int{1, 0, 1}, []int{2, 3}}, {5, []int{2, 0, 1}, nil}, {5, []int{0, 0, 3}, []int{0}},
		{5, nil, []int{0, 1, 2, 3, 4}}, {13, nil, []int{0, 1, 2, 3, 4, 5, 6, 7, 8, 9, 10, 11, 12}}, {2, nil, []int{0, 1}},
		{5, []int{1}, nil}, {2, []int{1}, nil}, {13, []int{12}, nil}, {7, []int{4, 1}, []int{3}}, {7, []int{1, 2}, []int{3}},
		// Powers of the prime minus the unknown, which are 0 everywhere.
		{2, []int{0, 1, 1}, []int{0, 1}}, {3, []int{0, 2, 0, 1}, []int{0, 1, 2}}, {5, []int{0, 4, 0, 0, 0, 1}, []int{0, 1, 2, 3, 4}}, {7, []int{0, 6, 0, 0, 0, 0, 0, 1}, []int{0, 1, 2, 3, 4, 5, 6}},
		{7, []int{6, 0, 0, 1}, []int{1, 2, 4}}, {13, []int{12, 0, 0, 0, 1}, []int{1, 5, 8, 12}},
	}
	for _, k := range known {
		if got := impl.ZerosOf(k.p, k.f); !slices.Equal(got, k.want) {
			t.Errorf("ZerosOf(%d, %v) = %v, want %v", k.p, k.f, got, k.want)
		}
	}
	// Lines of chosen zeros have no others.
	for _, p := range primes {
		for chosen := range 1 << p {
			f := []int{p - 1}
			var zeros []int
			for a := range p {
				if chosen>>a&1 == 1 {
					f = lineProduct(p, f, []int{p - a, 1})
					zeros = append(zeros, a)
				}
			}
			if len(f) > 10 {
				continue
			}
			if got := impl.ZerosOf(p, f); !slices.Equal(got, zeros) {
				t.Errorf("ZerosOf(%d, %v) = %v, want %v", p, f, got, zeros)
			}
		}
	}
}

// expectMultiplied checks a product, which may be too long, and its values.
func expectMultiplied(t *testing.T, p int, f []int, g []int) {
	t.Helper()
	got, ok := impl.MulLine(p, f, g)
	want := lineProduct(p, f, g)
	if len(want) > 10 {
		expectNoLine(t, "MulLine of long lines", got, ok)
		return
	}
	expectLine(t, "MulLine", got, ok, want)
	for a := range p {
		if value := impl.AtLine(p, got, a); value != lineValue(p, f, a)*lineValue(p, g, a)%p {
			t.Errorf("AtLine(%d, MulLine of %v and %v, %d) = %d", p, f, g, a, value)
		}
	}
}

func TestMulLine(t *testing.T) {
	eachPair(func(p int, f []int, g []int) { expectMultiplied(t, p, f, g) })
	eachLength(132, func(_ *draw, p int, f []int, g []int) { expectMultiplied(t, p, f, g) })
	known := []struct {
		p    int
		f    []int
		g    []int
		want []int
	}{
		{5, []int{1, 1}, []int{4, 1}, []int{4, 0, 1}}, {5, nil, nil, nil}, {5, nil, []int{4, 0, 1}, nil}, {5, []int{4, 0, 1}, nil, nil},
		{5, []int{2}, []int{3}, []int{1}}, {5, []int{1}, []int{1, 2, 3}, []int{1, 2, 3}}, {5, []int{1, 2, 3}, []int{2}, []int{2, 4, 1}},
		{2, []int{1, 1}, []int{1, 1}, []int{1, 0, 1}}, {3, []int{0, 2}, []int{0, 2}, []int{0, 0, 1}}, {13, []int{12, 12}, []int{1, 12}, []int{12, 0, 1}},
	}
	for _, k := range known {
		got, ok := impl.MulLine(k.p, k.f, k.g)
		expectLine(t, "MulLine", got, ok, k.want)
	}
}

// Products of ten elements, of eleven, and of the line 0, which is no longer
// with any line.
func TestLongProducts(t *testing.T) {
	for _, p := range primes {
		for n := range 11 {
			f := append(make([]int, n), p-1)
			if n > 9 {
				continue
			}
			got, ok := impl.MulLine(p, f, append(make([]int, 9-n), 1))
			expectLine(t, "MulLine", got, ok, append(make([]int, 9), p-1))
			if n > 0 {
				got, ok = impl.MulLine(p, f, append(make([]int, 10-n), 1))
				expectNoLine(t, "MulLine with eleven elements", got, ok)
			}
			got, ok = impl.MulLine(p, f, nil)
			expectLine(t, "MulLine by 0", got, ok, nil)
			got, ok = impl.MulLine(p, nil, f)
			expectLine(t, "MulLine of 0", got, ok, nil)
		}
	}
}

func TestDivideLine(t *testing.T) {
	known := []struct {
		p        int
		f        []int
		g        []int
		quotient []int
		rest     []int
	}{
		{5, []int{1, 2, 3}, []int{1, 1}, []int{4, 3}, []int{2}}, {5, []int{3}, []int{4, 0, 1}, nil, []int{3}}, {5, nil, []int{4, 0, 1}, nil, nil},
		{5, nil, []int{2}, nil, nil}, {5, []int{4}, []int{2}, []int{2}, nil}, {5, []int{1, 2, 3}, []int{2}, []int{3, 1, 4}, nil},
		{5, []int{1, 2, 3}, []int{1, 2, 3}, []int{1}, nil}, {5, []int{1, 2, 3}, []int{0, 0, 1}, []int{3}, []int{1, 2}}, {5, []int{1, 2, 3}, []int{1, 4, 2}, []int{4}, []int{2, 1}},
		{5, []int{1, 2, 3}, []int{1, 2, 3, 4}, nil, []int{1, 2, 3}}, {2, []int{1, 0, 0, 0, 0, 0, 0, 0, 0, 1}, []int{1, 1}, slices.Repeat([]int{1}, 9), nil},
		{7, []int{0, 0, 0, 0, 0, 0, 0, 0, 0, 3}, []int{0, 0, 0, 5}, []int{0, 0, 0, 0, 0, 0, 2}, nil}, {3, []int{1, 0, 0, 2}, []int{1, 2}, []int{1, 1, 1}, nil},
	}
	for _, k := range known {
		quotient, rest, ok := impl.DivideLine(k.p, k.f, k.g)
		expectTwoLines(t, "DivideLine", quotient, rest, ok, k.quotient, k.rest)
	}
	eachPair(func(p int, f []int, g []int) { expectDivided(t, p, f, g) })
	eachLength(133, func(_ *draw, p int, f []int, g []int) {
		expectDivided(t, p, f, g)
		if len(g) == 0 {
			return
		}
		quotient, rest, ok := impl.DivideLine(p, f, g)
		first, second := divisionBySteps(p, f, g)
		expectTwoLines(t, "DivideLine", quotient, rest, ok, first, second)
	})
}

// A quotient and a rest are found again in what they make.
func TestDivisionsOfSums(t *testing.T) {
	d := draw(134)
	for _, p := range primes {
		for degree := range 10 {
			for length := range 11 - degree {
				for shorter := range degree + 1 {
					g, quotient, rest := d.line(p, degree+1), d.line(p, length), d.line(p, shorter)
					f := lineSum(p, lineProduct(p, g, quotient), rest, 1)
					a, b, ok := impl.DivideLine(p, f, g)
					expectTwoLines(t, "DivideLine of a sum", a, b, ok, quotient, rest)
				}
			}
		}
	}
}

func TestDivisionByZero(t *testing.T) {
	for _, p := range primes {
		for _, f := range append(linesUpTo(p, 2), append(make([]int, 9), 1)) {
			for _, zero := range [][]int{nil, {}, make([]int, 0, 5)} {
				a, b, ok := impl.DivideLine(p, f, zero)
				expectNoTwoLines(t, "DivideLine by 0", a, b, ok)
			}
		}
	}
}

// The greatest common divisor is that of the greatest degree among all monic
// lines of which both are multiples.
func TestAllDivisors(t *testing.T) {
	for _, p := range primes {
		lines := linesUpTo(p, shortLines[p])
		divides := make([][]bool, len(lines))
		for i, f := range lines {
			divides[i] = make([]bool, len(lines))
			if len(f) == 0 || f[len(f)-1] != 1 {
				continue
			}
			for _, g := range lines {
				if number := numberOfLine(p, lineProduct(p, f, g)); number < len(lines) {
					divides[i][number] = true
				}
			}
		}
		for i, f := range lines {
			for k, g := range lines {
				if i == 0 && k == 0 {
					continue
				}
				var greatest []int
				for divisor := range lines {
					if divides[divisor][i] && divides[divisor][k] && len(lines[divisor]) > len(greatest) {
						greatest = lines[divisor]
					}
				}
				got, ok := impl.GcdLine(p, f, g)
				expectLine(t, "GcdLine", got, ok, greatest)
			}
		}
	}
}

func TestGcdLine(t *testing.T) {
	known := []struct {
		p    int
		f    []int
		g    []int
		want []int
	}{
		{5, []int{4, 0, 1}, []int{2, 2}, []int{1, 1}}, {5, nil, nil, nil}, {5, nil, []int{0, 3}, []int{0, 1}}, {5, []int{0, 3}, nil, []int{0, 1}},
		{5, nil, []int{3}, []int{1}}, {5, []int{3}, []int{2}, []int{1}}, {5, []int{1, 2, 3}, []int{1, 2, 3}, []int{2, 4, 1}}, {5, []int{0, 1}, []int{1, 1}, []int{1}},
		{5, []int{1, 2, 3}, []int{4}, []int{1}}, {2, []int{1, 0, 1, 0, 1}, []int{1, 1, 1}, []int{1, 1, 1}}, {2, []int{0, 1, 1}, []int{1, 0, 1}, []int{1, 1}},
		{2, []int{1, 0, 0, 0, 0, 0, 0, 0, 0, 1}, []int{1, 0, 0, 0, 0, 0, 1}, []int{1, 0, 0, 1}}, {13, []int{0, 0, 0, 0, 0, 0, 0, 0, 0, 2}, []int{0, 0, 0, 0, 5}, []int{0, 0, 0, 0, 1}},
	}
	for _, k := range known {
		got, ok := impl.GcdLine(k.p, k.f, k.g)
		expectLine(t, "GcdLine", got, ok, k.want)
		got, ok = impl.GcdLine(k.p, k.g, k.f)
		expectLine(t, "GcdLine the other way round", got, ok, k.want)
	}
	for _, p := range primes {
		d := draw(135)
		for elements := range 11 {
			f := d.line(p, elements)
			monic, _, _ := madeFromTheEnd(p, append(f, 1)[:max(1, elements)], nil)
			if elements == 0 {
				monic = nil
			}
			for _, other := range [][]int{f, nil} {
				got, ok := impl.GcdLine(p, f, other)
				expectLine(t, "GcdLine with itself or 0", got, ok, monic)
			}
		}
	}
}

// A divisor that two lines are multiplied by divides both.
func TestCommonFactors(t *testing.T) {
	d := draw(136)
	for _, p := range primes {
		for n := range 200 {
			shared := d.line(p, 1+n%6)
			f := lineProduct(p, shared, d.line(p, d.below(11-n%6)))
			g := lineProduct(p, shared, d.line(p, d.below(11-n%6)))
			expectMade(t, p, f, g)
			divisor, _ := impl.GcdLine(p, f, g)
			if _, rest := divisionBySteps(p, divisor, shared); len(rest) != 0 {
				t.Errorf("GcdLine(%d, %v, %v) = %v, which %v does not divide", p, f, g, divisor, shared)
			}
		}
	}
}

func TestBezoutLine(t *testing.T) {
	known := []struct {
		p      int
		f      []int
		g      []int
		first  []int
		second []int
	}{
		{5, []int{0, 1}, []int{1, 1}, []int{4}, []int{1}}, {5, []int{1, 1}, []int{0, 1}, []int{1}, []int{4}},
		{5, []int{4, 0, 1}, []int{2, 2}, nil, []int{3}}, {5, []int{2, 2}, []int{4, 0, 1}, []int{3}, nil},
		{5, []int{2, 2}, []int{2, 2}, nil, []int{3}}, {5, []int{1, 1}, []int{3, 3}, nil, []int{2}}, {5, []int{3, 3}, []int{1, 1}, nil, []int{1}},
		{5, nil, []int{0, 3}, nil, []int{2}}, {5, []int{0, 3}, nil, []int{2}, nil}, {5, nil, []int{1}, nil, []int{1}}, {5, []int{1}, nil, []int{1}, nil},
		{5, []int{2}, []int{3}, nil, []int{2}}, {5, []int{3}, []int{2}, nil, []int{3}}, {5, []int{2}, []int{1, 1}, []int{3}, nil}, {5, []int{1, 1}, []int{2}, nil, []int{3}},
		{5, []int{1, 0, 0, 1}, []int{1, 0, 1}, []int{3, 3}, []int{3, 2, 2}}, {5, []int{1, 0, 1}, []int{1, 0, 0, 1}, []int{3, 2, 2}, []int{3, 3}},
		{2, []int{1, 1, 1}, []int{0, 1}, []int{1}, []int{1, 1}}, {2, []int{0, 1}, []int{1, 1, 1}, []int{1, 1}, []int{1}},
	}
	for _, k := range known {
		a, b, ok := impl.BezoutLine(k.p, k.f, k.g)
		expectTwoLines(t, "BezoutLine", a, b, ok, k.first, k.second)
	}
	eachPair(func(p int, f []int, g []int) { expectMade(t, p, f, g) })
	eachLength(137, func(_ *draw, p int, f []int, g []int) {
		expectMade(t, p, f, g)
		expectMade(t, p, f, f)
	})
	for _, p := range primes {
		for _, zero := range [][]int{nil, {}, make([]int, 0, 5)} {
			expectMade(t, p, nil, zero)
			expectMade(t, p, zero, nil)
			a, b, ok := impl.BezoutLine(p, zero, zero)
			expectNoTwoLines(t, "BezoutLine of 0 and 0", a, b, ok)
		}
	}
}

// Lines with many steps of division: each one is the one before times a line of
// the degree 1, plus the one before that.
func TestManyDivisions(t *testing.T) {
	d := draw(138)
	for _, p := range primes {
		for range 20 {
			before, last := []int{1}, d.line(p, 2)
			for len(last) < 10 {
				before, last = last, lineSum(p, lineProduct(p, last, d.line(p, 2)), before, 1)
			}
			expectMade(t, p, last, before)
			expectMade(t, p, before, last)
			got, ok := impl.GcdLine(p, last, before)
			expectLine(t, "GcdLine", got, ok, []int{1})
		}
	}
}

// eachPlaces tells all rows of different elements of a field, of all lengths up
// to a greatest one.
func eachPlaces(p int, greatest int, at []int, check func(at []int)) {
	check(at)
	for a := range p {
		if len(at) < greatest && !slices.Contains(at, a) {
			eachPlaces(p, greatest, append(slices.Clone(at), a), check)
		}
	}
}

// expectThrough checks a line by its values at points.
func expectThrough(t *testing.T, p int, at []int, values []int) {
	t.Helper()
	f, ok := impl.ThroughPoints(p, at, values)
	if !ok || len(f) > len(at) || !impl.LineValid(p, f) {
		t.Errorf("ThroughPoints(%d, %v, %v) = %v, %v", p, at, values, f, ok)
		return
	}
	for i, a := range at {
		if value := lineValue(p, f, a); value != values[i] {
			t.Errorf("ThroughPoints(%d, %v, %v) = %v, which is %d at %d", p, at, values, f, value, a)
		}
	}
}

// Through all points that there are over small fields: for each list of values
// there is just one line, found by comparing all.
func TestThroughAllPoints(t *testing.T) {
	for p, greatest := range map[int]int{2: 2, 3: 3, 5: 2, 7: 2} {
		eachPlaces(p, greatest, nil, func(at []int) {
			for _, f := range linesUpTo(p, len(at)) {
				var values []int
				for _, a := range at {
					values = append(values, lineValue(p, f, a))
				}
				got, ok := impl.ThroughPoints(p, at, values)
				expectLine(t, "ThroughPoints", got, ok, f)
			}
		})
	}
}

// places returns so many different elements, in any order.
func (d *draw) places(p int, count int) []int {
	list := numbersFrom(0, p)
	for i := range list {
		k := i + d.below(p-i)
		list[i], list[k] = list[k], list[i]
	}
	return list[:count:count]
}

func TestThroughPoints(t *testing.T) {
	known := []struct {
		p      int
		at     []int
		values []int
		want   []int
	}{
		{5, []int{0, 1, 2}, []int{4, 0, 3}, []int{4, 0, 1}}, {5, []int{2, 0, 1}, []int{3, 4, 0}, []int{4, 0, 1}}, {5, nil, nil, nil}, {5, []int{3}, []int{0}, nil},
		{5, []int{3}, []int{2}, []int{2}}, {5, []int{0}, []int{4}, []int{4}}, {5, []int{1, 4}, []int{1, 4}, []int{0, 1}}, {5, []int{1, 4}, []int{3, 3}, []int{3}},
		{5, []int{0, 1, 2, 3, 4}, []int{1, 0, 0, 0, 0}, []int{1, 0, 0, 0, 4}}, {2, []int{0, 1}, []int{1, 0}, []int{1, 1}}, {2, []int{1, 0}, []int{1, 0}, []int{0, 1}},
		{13, []int{0, 1, 2, 3, 4, 5, 6, 7, 8, 9}, []int{0, 1, 4, 9, 3, 12, 10, 10, 12, 3}, []int{0, 0, 1}},
	}
	for _, k := range known {
		got, ok := impl.ThroughPoints(k.p, k.at, k.values)
		expectLine(t, "ThroughPoints", got, ok, k.want)
	}
	d := draw(139)
	for _, p := range primes {
		for count := range min(p, 10) + 1 {
			for range 20 {
				at, values := d.places(p, count), make([]int, count)
				expectThrough(t, p, at, values)
				for i := range values {
					values[i] = d.below(p)
				}
				expectThrough(t, p, at, values)
				expectThrough(t, p, at, slices.Repeat([]int{d.below(p)}, count))
				// Where there are as many points as elements, or more, the line
				// through the values of one is this line.
				f := d.line(p, d.below(count+1))
				for i, a := range at {
					values[i] = lineValue(p, f, a)
				}
				got, ok := impl.ThroughPoints(p, at, values)
				expectLine(t, "ThroughPoints of a line", got, ok, f)
			}
		}
		got, ok := impl.ThroughPoints(p, nil, nil)
		expectLine(t, "ThroughPoints without points", got, ok, nil)
	}
}

func TestNoPoints(t *testing.T) {
	d := draw(140)
	for _, p := range primes {
		count := min(p, 10)
		expectNone := func(name string, at []int, values []int) {
			t.Helper()
			got, ok := impl.ThroughPoints(p, at, values)
			expectNoLine(t, name, got, ok)
		}
		for i := range count {
			for k := range i {
				at := d.places(p, count)
				at[i] = at[k]
				expectNone("ThroughPoints with an element twice", at, make([]int, count))
				expectNone("ThroughPoints with an element twice", at, numbersFrom(0, count))
			}
			for _, a := range outsideOf(p) {
				at, values := d.places(p, count), numbersFrom(0, count)
				at[i] = a
				expectNone("ThroughPoints at what is no element", at, values)
				at, values[i] = d.places(p, count), a
				expectNone("ThroughPoints of what is no element", at, values)
			}
		}
		for length := range count + 1 {
			for other := range 14 {
				if other != length {
					expectNone("ThroughPoints of other lengths", d.places(p, length), make([]int, other))
				}
			}
		}
		for length := 11; length <= 20; length++ {
			at := numbersFrom(0, length)
			expectNone("ThroughPoints of too many points", at, make([]int, length))
			for i := range at {
				at[i] %= p
			}
			expectNone("ThroughPoints of too many points", at, slices.Repeat([]int{1}, length))
		}
		expectNone("ThroughPoints of a million points", make([]int, 1000000), make([]int, 1000000))
	}
	for _, p := range noPrimes {
		for length := range 4 {
			got, ok := impl.ThroughPoints(p, numbersFrom(0, length), make([]int, length))
			expectNoLine(t, "ThroughPoints over no field", got, ok)
		}
	}
}

// factoredLines returns, for the number of each line of at most so many
// elements, whether it is a product of two lines of less degrees.
func factoredLines(p int, elements int) []bool {
	lines := linesUpTo(p, elements)
	isProduct := make([]bool, len(lines))
	for i, f := range lines {
		// From p on, numbers are those of lines of the degree 1 or more, and
		// greater ones are those of lines of the same degree or a greater one.
		for k := p; k <= i; k++ {
			if len(f)+len(lines[k])-1 > elements {
				break
			}
			isProduct[numberOfLine(p, lineProduct(p, f, lines[k]))] = true
		}
	}
	return isProduct
}

// expectFactors checks the factors of a line: they are prime, in the order of
// their numbers, and make the line.
func expectFactors(t *testing.T, p int, f []int, isProduct []bool) {
	t.Helper()
	factors, ok := impl.FactorLine(p, f)
	if !ok {
		t.Errorf("FactorLine(%d, %v) = %v, false", p, f, factors)
		return
	}
	made, before := []int{f[len(f)-1]}, 0
	for _, factor := range factors {
		number := numberOfLine(p, factor)
		if number < before || len(factor) < 2 || factor[len(factor)-1] != 1 || isProduct[number] {
			t.Errorf("FactorLine(%d, %v) = %v", p, f, factors)
			return
		}
		made, before = lineProduct(p, made, factor), number
	}
	if !slices.Equal(made, f) {
		t.Errorf("FactorLine(%d, %v) = %v, which make %v", p, f, factors, made)
	}
	if got, want := impl.IsPrimeLine(p, f), len(f) > 1 && !isProduct[numberOfLine(p, f)]; got != want {
		t.Errorf("IsPrimeLine(%d, %v) = %v", p, f, got)
	}
}

// All lines of few elements, also those that are not monic, and how many of the
// monic ones of each degree are prime.
func TestAllFactors(t *testing.T) {
	counts := []struct {
		p      int
		counts []int
	}{{2, []int{2, 1, 2, 3, 6}}, {3, []int{3, 3, 8, 18, 48}}, {5, []int{5, 10, 40, 150}}, {7, []int{7, 21, 112}}, {11, []int{11, 55}}, {13, []int{13, 78}}}
	for _, k := range counts {
		elements := len(k.counts) + 1
		isProduct := factoredLines(k.p, elements)
		counted := make([]int, len(k.counts))
		for _, f := range linesUpTo(k.p, elements)[1:] {
			expectFactors(t, k.p, f, isProduct)
			if f[len(f)-1] == 1 && impl.IsPrimeLine(k.p, f) {
				counted[len(f)-2]++
			}
		}
		if !slices.Equal(counted, k.counts) {
			t.Errorf("over the field of %d, the prime lines of the degrees from 1 on are %v, want %v", k.p, counted, k.counts)
		}
	}
}

func TestKnownFactors(t *testing.T) {
	known := []struct {
		p    int
		f    []int
		want [][]int
	}{
		{5, []int{4, 0, 1}, [][]int{{1, 1}, {4, 1}}}, {5, []int{3}, nil}, {5, []int{1}, nil}, {2, []int{1}, nil}, {13, []int{12}, nil},
		{5, []int{2, 0, 1}, [][]int{{2, 0, 1}}}, {5, []int{4, 0, 2}, [][]int{{2, 0, 1}}}, {5, []int{2, 1}, [][]int{{2, 1}}}, {5, []int{1, 3}, [][]int{{2, 1}}},
		{2, []int{1, 0, 1, 0, 1}, [][]int{{1, 1, 1}, {1, 1, 1}}}, {2, []int{1, 0, 1}, [][]int{{1, 1}, {1, 1}}}, {2, []int{1, 0, 0, 0, 1}, [][]int{{1, 1}, {1, 1}, {1, 1}, {1, 1}}},
		{2, []int{0, 0, 0, 0, 0, 1}, [][]int{{0, 1}, {0, 1}, {0, 1}, {0, 1}, {0, 1}}}, {2, []int{0, 1, 0, 0, 1}, [][]int{{0, 1}, {1, 1}, {1, 1, 1}}},
		{2, []int{1, 0, 0, 0, 1, 1}, [][]int{{1, 1, 1}, {1, 1, 0, 1}}}, {2, []int{1, 0, 1, 0, 0, 1}, [][]int{{1, 0, 1, 0, 0, 1}}},
		{5, []int{0, 4, 0, 0, 0, 1}, [][]int{{0, 1}, {1, 1}, {2, 1}, {3, 1}, {4, 1}}}, {3, []int{0, 0, 2, 0, 0, 2}, [][]int{{0, 1}, {0, 1}, {1, 1}, {1, 1}, {1, 1}}},
		// Two factors of the degree 2, of which the first one is the one of the
		// lesser element before the power 1, and then before the power 0.
		{3, lineProduct(3, []int{1, 0, 1}, []int{2, 1, 1}), [][]int{{1, 0, 1}, {2, 1, 1}}}, {3, lineProduct(3, []int{2, 2, 1}, []int{2, 1, 1}), [][]int{{2, 1, 1}, {2, 2, 1}}},
		{5, lineProduct(5, []int{3, 0, 1}, []int{2, 0, 1}), [][]int{{2, 0, 1}, {3, 0, 1}}}, {5, lineProduct(5, []int{1, 1, 1}, []int{3, 0, 1}), [][]int{{3, 0, 1}, {1, 1, 1}}},
	}
	for _, k := range known {
		got, ok := impl.FactorLine(k.p, k.f)
		if !ok || !slices.EqualFunc(got, k.want, slices.Equal) {
			t.Errorf("FactorLine(%d, %v) = %v, %v, want %v", k.p, k.f, got, ok, k.want)
		}
		if got := impl.IsPrimeLine(k.p, k.f); got != (len(k.want) == 1) {
			t.Errorf("IsPrimeLine(%d, %v) = %v", k.p, k.f, got)
		}
	}
}

// Products of drawn prime lines, some of which come more than once, with an
// element.
func TestDrawnFactors(t *testing.T) {
	d := draw(141)
	for _, p := range primes {
		isProduct := factoredLines(p, 3)
		for n := range 200 {
			f, want := []int{1 + d.below(p-1)}, []int{}
			for {
				number := p + d.below(p*p)
				if n%2 == 0 && len(want) > 0 && d.below(2) == 0 {
					number = want[0]
				}
				factor := lineNumbered(p, number)
				if factor[len(factor)-1] != 1 || isProduct[number] {
					continue
				}
				longer := lineProduct(p, f, factor)
				if len(longer) > 6 {
					break
				}
				f, want = longer, append(want, number)
			}
			slices.Sort(want)
			factors, ok := impl.FactorLine(p, f)
			var got []int
			for _, factor := range factors {
				got = append(got, numberOfLine(p, factor))
			}
			if !ok || !slices.Equal(got, want) {
				t.Errorf("FactorLine(%d, %v) = %v, %v, want those with the numbers %v", p, f, factors, ok, want)
			}
			if got := impl.IsPrimeLine(p, f); got != (len(want) == 1) {
				t.Errorf("IsPrimeLine(%d, %v) = %v", p, f, got)
			}
		}
	}
}

// Prime lines of six elements, with all elements that they may be multiplied by:
// known ones over the fields of 2 and 3, the power 5 minus the unknown and an
// element, and the power 5 minus an element that is no such power.
func TestPrimeLinesOfSixElements(t *testing.T) {
	for _, k := range []struct {
		p int
		f []int
	}{{2, []int{1, 0, 1, 0, 0, 1}}, {3, []int{1, 2, 0, 0, 0, 1}}, {5, []int{4, 4, 0, 0, 0, 1}}, {5, []int{1, 4, 0, 0, 0, 1}}, {11, []int{9, 0, 0, 0, 0, 1}}, {11, []int{3, 0, 0, 0, 0, 1}}} {
		for a := 1; a < k.p; a++ {
			f := lineSum(k.p, nil, k.f, a)
			if !impl.IsPrimeLine(k.p, f) {
				t.Errorf("IsPrimeLine(%d, %v) = false", k.p, f)
			}
			factors, ok := impl.FactorLine(k.p, f)
			if !ok || len(factors) != 1 || !slices.Equal(factors[0], k.f) {
				t.Errorf("FactorLine(%d, %v) = %v, %v", k.p, f, factors, ok)
			}
		}
	}
	// The fifth powers over the field of 11 are 0, 1 and 10, and all elements
	// are such powers over that of 13.
	for _, p := range []int{11, 13} {
		for a := 1; a < p; a++ {
			f := []int{a, 0, 0, 0, 0, 1}
			if got, want := impl.IsPrimeLine(p, f), p == 11 && a != 1 && a != 10; got != want {
				t.Errorf("IsPrimeLine(%d, %v) = %v", p, f, got)
			}
		}
	}
}

// Lines of 1 and of 7 elements or more, and the line 0.
func TestLinesThatAreNotFactored(t *testing.T) {
	d := draw(142)
	expectNone := func(p int, f []int) {
		t.Helper()
		if impl.IsPrimeLine(p, f) {
			t.Errorf("IsPrimeLine(%d, %v) = true", p, f)
		}
		if list, ok := impl.FactorLine(p, f); ok || len(list) != 0 {
			t.Errorf("FactorLine(%d, %v) = %v, %v", p, f, list, ok)
		}
	}
	for _, p := range primes {
		expectNone(p, nil)
		expectNone(p, []int{})
		for a := 1; a < p; a++ {
			if list, ok := impl.FactorLine(p, []int{a}); !ok || len(list) != 0 || impl.IsPrimeLine(p, []int{a}) {
				t.Errorf("FactorLine, IsPrimeLine(%d, %d alone) = %v, %v, %v", p, a, list, ok, impl.IsPrimeLine(p, []int{a}))
			}
		}
		for elements := 7; elements <= 12; elements++ {
			expectNone(p, append(make([]int, elements-1), 1))
			for range 20 {
				expectNone(p, d.line(p, elements))
			}
		}
	}
	// The first one is prime, and the second one a product of two that are.
	expectNone(2, []int{1, 1, 0, 0, 0, 0, 1})
	expectNone(2, lineProduct(2, []int{1, 1, 0, 1}, []int{1, 0, 1, 1}))
}

func TestPolyOfLine(t *testing.T) {
	known := []struct {
		p    int
		f    []int
		v    int
		want string
	}{
		{5, []int{4, 0, 1}, 0, "x2+4"}, {5, []int{4, 0, 1}, 1, "y2+4"}, {5, []int{4, 0, 1}, 2, "z2+4"}, {5, nil, 0, "0"}, {5, nil, 1, "0"}, {5, nil, 2, "0"},
		{5, []int{3}, 0, "3"}, {5, []int{1}, 2, "1"}, {5, []int{0, 1}, 1, "y"}, {13, []int{0, 12, 10}, 2, "10z2+12z"},
		{2, slices.Repeat([]int{1}, 10), 1, "y9+y8+y7+y6+y5+y4+y3+y2+y+1"}, {7, []int{0, 0, 0, 0, 0, 0, 0, 0, 0, 6}, 0, "6x9"},
	}
	for _, k := range known {
		got, ok := impl.PolyOfLine(k.p, k.f, k.v)
		expectPoly(t, "PolyOfLine", got, ok, read(t, k.p, k.want))
	}
	eachLength(143, func(d *draw, p int, f []int, g []int) {
		for v := range 3 {
			got, ok := impl.PolyOfLine(p, f, v)
			want := plain{}
			for n, a := range f {
				var k powers
				k[v] = n
				want[k] = a
			}
			expectPlain(t, "PolyOfLine", p, got, ok, want)
			at := d.point(p)
			if value := impl.EvalPoly(p, got, at); value != impl.AtLine(p, f, at[v]) {
				t.Errorf("EvalPoly(%d, PolyOfLine of %v and %d, %v) = %d", p, f, v, at, value)
			}
			if product, isLine := impl.MulLine(p, f, g); isLine {
				other, _ := impl.PolyOfLine(p, g, v)
				whole, ok := impl.PolyOfLine(p, product, v)
				f, _ := impl.MulPoly(p, got, other)
				expectPoly(t, "PolyOfLine of a product", whole, ok, f)
			}
		}
		for _, v := range noUnknowns {
			got, ok := impl.PolyOfLine(p, f, v)
			expectNone(t, "PolyOfLine with no unknown", got, ok)
		}
	})
}

// noLines are lists that are no lines over the field of p.
func noLines(p int) [][]int {
	list := [][]int{{0}, {0, 0}, {1, 0}, {1, 1, 0}, {0, 1, 0, 0}, make([]int, 6), make([]int, 10), make([]int, 11), append(make([]int, 10), 1), slices.Repeat([]int{1}, 11), slices.Repeat([]int{1}, 100)}
	for _, a := range outsideOf(p) {
		list = append(list, []int{a}, []int{a, 1}, []int{1, a}, []int{1, a, 1}, []int{0, 0, 0, 0, a, 1}, append(make([]int, 9), a), append([]int{a}, slices.Repeat([]int{1}, 9)...))
	}
	return list
}

// expectNothingOfLine checks all functions for a list that is no line.
func expectNothingOfLine(t *testing.T, p int, f []int) {
	t.Helper()
	if impl.LineValid(p, f) || impl.IsPrimeLine(p, f) {
		t.Errorf("LineValid, IsPrimeLine(%d, %v) = %v, %v", p, f, impl.LineValid(p, f), impl.IsPrimeLine(p, f))
	}
	for _, a := range []int{-1, 0, 1, p} {
		if got := impl.AtLine(p, f, a); got != -1 {
			t.Errorf("AtLine(%d, %v, %d) = %d, want -1", p, f, a, got)
		}
	}
	if got := impl.ZerosOf(p, f); len(got) != 0 {
		t.Errorf("ZerosOf(%d, %v) = %v, want none", p, f, got)
	}
	if got, ok := impl.FactorLine(p, f); ok || len(got) != 0 {
		t.Errorf("FactorLine(%d, %v) = %v, %v, want none", p, f, got, ok)
	}
	for v := range 4 {
		got, ok := impl.PolyOfLine(p, f, v)
		expectNone(t, "PolyOfLine", got, ok)
	}
	for _, other := range [][]int{nil, {1}, {0, 1}, {1, 1, 1}, append(make([]int, 9), 1), f} {
		for _, pair := range [][2][]int{{f, other}, {other, f}} {
			got, ok := impl.MulLine(p, pair[0], pair[1])
			expectNoLine(t, "MulLine", got, ok)
			got, ok = impl.GcdLine(p, pair[0], pair[1])
			expectNoLine(t, "GcdLine", got, ok)
			a, b, ok := impl.DivideLine(p, pair[0], pair[1])
			expectNoTwoLines(t, "DivideLine", a, b, ok)
			a, b, ok = impl.BezoutLine(p, pair[0], pair[1])
			expectNoTwoLines(t, "BezoutLine", a, b, ok)
		}
	}
}

func TestNoLines(t *testing.T) {
	for _, p := range primes {
		for _, f := range noLines(p) {
			expectNothingOfLine(t, p, f)
		}
	}
	for _, p := range noPrimes {
		for _, f := range [][]int{nil, {}, {1}, {0, 1}, {1, 1}, {1, 0, 1, 0, 1}, append(make([]int, 9), 1), {0}, {-1}, {math.MinInt}} {
			expectNothingOfLine(t, p, f)
		}
	}
}

// expectApart checks that the two lists that a call returns share no memory.
func expectApart(t *testing.T, name string, call func() ([]int, []int, bool)) {
	t.Helper()
	a, b, ok := call()
	first, second := slices.Clone(a), slices.Clone(b)
	if !ok {
		t.Fatalf("%s returned false", name)
	}
	for i := range a[:cap(a)] {
		a[:cap(a)][i] = -8
	}
	if !slices.Equal(b, second) {
		t.Errorf("%s: the second result changed with the first one: %v", name, b)
	}
	copy(a, first)
	for i := range b[:cap(b)] {
		b[:cap(b)][i] = -8
	}
	if !slices.Equal(a, first) {
		t.Errorf("%s: the first result changed with the second one: %v", name, a)
	}
	expectNewNumbers(t, name+", the first result", func() []int { a, _, _ := call(); return a })
	expectNewNumbers(t, name+", the second result", func() []int { _, b, _ := call(); return b })
}

func TestLinesShareNoMemory(t *testing.T) {
	elements := []int{1, 2, 3, -7, -7, -7, -7, -7, -7, -7, -7, -7, -7}
	others := []int{1, 1, -7, -7, -7, -7, -7, -7, -7, -7, -7, -7}
	one := []int{1, -7, -7, -7}
	f, g, unit, zero := elements[:3], others[:2], one[:1], elements[3:3]
	numbers := map[string]func() ([]int, bool){
		"MulLine":                    func() ([]int, bool) { return impl.MulLine(5, f, g) },
		"MulLine by 1":               func() ([]int, bool) { return impl.MulLine(5, f, unit) },
		"MulLine of 1":               func() ([]int, bool) { return impl.MulLine(5, unit, f) },
		"MulLine by 0":               func() ([]int, bool) { return impl.MulLine(5, f, zero) },
		"MulLine with itself":        func() ([]int, bool) { return impl.MulLine(5, f, f) },
		"GcdLine":                    func() ([]int, bool) { return impl.GcdLine(5, f, g) },
		"GcdLine of monic and 0":     func() ([]int, bool) { return impl.GcdLine(5, g, zero) },
		"GcdLine of 0 and monic":     func() ([]int, bool) { return impl.GcdLine(5, zero, g) },
		"GcdLine of 0 and 0":         func() ([]int, bool) { return impl.GcdLine(5, zero, zero) },
		"GcdLine of monic by itself": func() ([]int, bool) { return impl.GcdLine(5, g, g) },
		"ZerosOf 0":                  func() ([]int, bool) { return impl.ZerosOf(5, zero), true },
		"ZerosOf":                    func() ([]int, bool) { return impl.ZerosOf(5, g), true },
		"ThroughPoints":              func() ([]int, bool) { return impl.ThroughPoints(5, f, f) },
		"ThroughPoints with one":     func() ([]int, bool) { return impl.ThroughPoints(5, unit, unit) },
		"ThroughPoints with none":    func() ([]int, bool) { return impl.ThroughPoints(5, zero, zero) },
	}
	for name, call := range numbers {
		expectNew(t, name, -8, call)
	}
	for name, lines := range map[string][2][]int{"two": {f, g}, "a shorter one first": {g, f}, "one by 1": {f, unit}, "1 by one": {unit, f}, "itself": {f, f}, "itself, monic": {g, g}, "0 by one": {zero, f}} {
		expectApart(t, "DivideLine of "+name, func() ([]int, []int, bool) { return impl.DivideLine(5, lines[0], lines[1]) })
		expectApart(t, "BezoutLine of "+name, func() ([]int, []int, bool) { return impl.BezoutLine(5, lines[0], lines[1]) })
	}
	square := []int{4, 0, 1, -7}[:3]
	for name, line := range map[string][]int{"FactorLine": square, "FactorLine of a monic prime": g, "FactorLine of a power": {0, 0, 0, 0, 0, 1}} {
		expectNewMatrix(t, name, func() (impl.Matrix, bool) { return impl.FactorLine(5, line) })
	}
	expectNewPolys(t, "PolyOfLine", func() (impl.Poly, bool) { return impl.PolyOfLine(5, f, 1) })
	for a := range 5 {
		impl.LineValid(5, f)
		impl.AtLine(5, f, a)
		impl.IsPrimeLine(5, f)
	}
	if !slices.Equal(elements[:3], []int{1, 2, 3}) || !slices.Equal(others[:2], []int{1, 1}) || one[0] != 1 || slices.Max(slices.Concat(elements[3:], others[2:], one[1:])) != -7 || slices.Min(slices.Concat(elements, others, one)) != -7 {
		t.Errorf("an argument has changed: %v, %v, %v", elements, others, one)
	}
}

// Calls at the same time have the results that each one has alone.
func TestLinesAtTheSameTime(t *testing.T) {
	shared := []int{4, 0, 1, 2, 3, 1}
	isProduct := factoredLines(5, 6)
	d := draw(144)
	var calls sync.WaitGroup
	for n := range 40 {
		p := primes[n%len(primes)]
		f, g := d.line(p, d.below(11)), d.line(p, 1+d.below(10))
		calls.Go(func() {
			expectDivided(t, p, f, g)
			expectDivided(t, p, f, nil)
			expectMade(t, p, f, g)
			expectMultiplied(t, 5, shared, shared[:1])
			expectDivided(t, 5, shared, []int{2, 3})
			expectFactors(t, 5, shared, isProduct)
		})
	}
	calls.Wait()
}
