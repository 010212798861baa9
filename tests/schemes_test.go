package tests

import (
	"math"
	"slices"
	"strings"
	"sync"
	"testing"

	"loop.example/polycircuits/impl"
)

// The table of the seven products, with -1 as it stands there.
const sevenProducts = "1 0 0 1|1 0 0 1|1 0 0 1;" +
	"0 0 1 1|1 0 0 0|0 0 1 -1;" +
	"1 0 0 0|0 1 0 -1|0 1 0 1;" +
	"0 0 0 1|-1 0 1 0|1 0 1 0;" +
	"1 1 0 0|0 0 0 1|-1 1 0 0;" +
	"-1 0 1 0|1 1 0 0|0 0 0 1;" +
	"0 1 0 -1|0 0 1 1|1 0 0 0"

// scheme returns the scheme of a text, in which products have `;` between them,
// and Left, Right and Out of each one `|`. Numbers are reduced.
func scheme(p int, s string) impl.Scheme {
	var list impl.Scheme
	for part := range strings.SplitSeq(s, ";") {
		list = append(list, productOfRows(over(p, rows(part))))
	}
	return list
}

// productOfRows returns the product whose Left, Right and Out are three rows.
func productOfRows(m impl.Matrix) impl.Product {
	return impl.Product{Left: [4]int(m[0]), Right: [4]int(m[1]), Out: [4]int(m[2])}
}

// eightProducts returns the plain scheme, in its order.
func eightProducts() impl.Scheme {
	var s impl.Scheme
	for i := range 2 {
		for k := range 2 {
			for j := range 2 {
				var one impl.Product
				one.Left[2*i+j], one.Right[2*j+k], one.Out[2*i+k] = 1, 1, 1
				s = append(s, one)
			}
		}
	}
	return s
}

// numbersBeside returns the three lists of a product.
func numbersBeside(one *impl.Product) [3]*[4]int {
	return [3]*[4]int{&one.Left, &one.Right, &one.Out}
}

// timesOut returns a product that counts so many times.
func timesOut(p int, one impl.Product, times int) impl.Product {
	for o := range one.Out {
		one.Out[o] = one.Out[o] * times % p
	}
	return one
}

// mixedRows returns the sum of the numbers of two rows of two, each as often as
// one of four numbers tells.
func mixedRows(m impl.Matrix, times [4]int) int {
	return m[0][0]*times[0] + m[0][1]*times[1] + m[1][0]*times[2] + m[1][1]*times[3]
}

// madeRows returns what a scheme makes of two rows of two, as any numbers.
func madeRows(s impl.Scheme, a impl.Matrix, b impl.Matrix) impl.Matrix {
	result := full(0, 2, 2)
	for _, one := range s {
		value := mixedRows(a, one.Left) * mixedRows(b, one.Right)
		for o, times := range one.Out {
			result[o/2][o%2] += times * value
		}
	}
	return result
}

// blockOfRows returns one of the four blocks of four rows, by number.
func blockOfRows(m impl.Matrix, number int) impl.Matrix {
	row, column := number/2*2, number%2*2
	return impl.Matrix{m[row][column : column+2], m[row+1][column : column+2]}
}

// mixedBlocks returns the sum of the blocks of four rows, each as often as one
// of four numbers tells.
func mixedBlocks(p int, m impl.Matrix, times [4]int) impl.Matrix {
	sum := full(0, 2, 2)
	for i, n := range times {
		sum = plusTimes(sum, blockOfRows(m, i), n)
	}
	return over(p, sum)
}

// madeOfBlocks returns what a scheme makes of four rows of four, where another
// way is given to multiply blocks.
func madeOfBlocks(p int, s impl.Scheme, a impl.Matrix, b impl.Matrix, multiply func(a impl.Matrix, b impl.Matrix) impl.Matrix) impl.Matrix {
	result := full(0, 4, 4)
	for _, one := range s {
		value := over(p, multiply(mixedBlocks(p, a, one.Left), mixedBlocks(p, b, one.Right)))
		for row := range 4 {
			for column := range 4 {
				times := one.Out[row/2*2+column/2]
				result[row][column] += times * value[row%2][column%2]
			}
		}
	}
	return over(p, result)
}

// oneAt returns square rows with a 1 at one place, by number, and 0 elsewhere.
func oneAt(side int, number int) impl.Matrix {
	m := full(0, side, side)
	m[number/side][number%side] = 1
	return m
}

// multipliesOnes reports whether a scheme makes the product of all two matrices
// with a single 1; all others are sums of multiples of these.
func multipliesOnes(p int, s impl.Scheme) bool {
	for i := range 4 {
		for k := range 4 {
			a, b := oneAt(2, i), oneAt(2, k)
			if !sameRows(over(p, madeRows(s, a, b)), product(a, b)) {
				return false
			}
		}
	}
	return true
}

// turnedNumbers returns four numbers with rows and columns in each other's place.
func turnedNumbers(list [4]int) [4]int {
	return [4]int{list[0], list[2], list[1], list[3]}
}

// inverseRows returns the inverse of two rows of two, if there is one.
func inverseRows(p int, m impl.Matrix) (impl.Matrix, bool) {
	det := remainder(p, expandedBy(-1, m))
	// The power p-2 of an element that is not 0 is its inverse.
	inverse := plusTimes(full(0, 2, 2), adjugateRows(m), powerBySquares(p, det, p-2))
	return over(p, inverse), det != 0
}

// basedProducts returns the products of a scheme with a matrix and its inverse
// between the two, number for number.
func basedProducts(p int, s impl.Scheme, m impl.Matrix, inverse impl.Matrix) impl.Scheme {
	var result impl.Scheme
	for _, one := range s {
		based := impl.Product{Out: one.Out}
		for i := range 2 {
			for k := range 2 {
				for j := range 2 {
					based.Left[2*i+k] += one.Left[2*i+j] * m[k][j]
					based.Right[2*i+k] += one.Right[2*j+k] * inverse[j][i]
				}
				based.Left[2*i+k] %= p
				based.Right[2*i+k] %= p
			}
		}
		result = append(result, based)
	}
	return result
}

// scheme returns drawn products, with a 0 at about one of zeros places.
func (d *draw) scheme(p int, products int, zeros int) impl.Scheme {
	var s impl.Scheme
	for range products {
		s = append(s, productOfRows(d.matrix(p, 3, 4, zeros)))
	}
	return s
}

// schemes returns drawn schemes of all numbers of products, some of them with
// the same products twice and with products of zeros.
func (d *draw) schemes(p int) []impl.Scheme {
	var list []impl.Scheme
	for products := range 11 {
		for zeros := 2; zeros < 5; zeros++ {
			list = append(list, d.scheme(p, products, zeros))
		}
		s := d.scheme(p, products, 3)
		for i := range s {
			switch d.below(4) {
			case 0:
				s[i] = s[d.below(len(s))]
			case 1:
				*numbersBeside(&s[i])[d.below(3)] = [4]int{}
			}
		}
		list = append(list, s)
	}
	return list
}

// withInverse returns a drawn matrix with an inverse, and this.
func (d *draw) withInverse(p int) (impl.Matrix, impl.Matrix) {
	for {
		m := d.matrix(p, 2, 2, 9)
		if inverse, ok := inverseRows(p, m); ok {
			return m, inverse
		}
	}
}

// reordered returns the same products in a drawn order.
func (d *draw) reordered(s impl.Scheme) impl.Scheme {
	result := slices.Clone(s)
	for i := range result {
		k := i + d.below(len(result)-i)
		result[i], result[k] = result[k], result[i]
	}
	return result
}

// multiplyingSchemes returns schemes that multiply.
func (d *draw) multiplyingSchemes(p int) []impl.Scheme {
	seven, eight := scheme(p, sevenProducts), eightProducts()
	list := []impl.Scheme{seven, eight, d.reordered(seven), d.reordered(eight)}
	one := d.scheme(p, 1, 9)[0]
	minus := timesOut(p, one, p-1)
	// What is added is 0 as a sum, or each product is.
	list = append(list, slices.Concat(seven, impl.Scheme{one, minus}), slices.Concat(impl.Scheme{minus}, eight, impl.Scheme{one}))
	list = append(list, slices.Concat(seven, make(impl.Scheme, 3)), slices.Concat(make(impl.Scheme, 2), eight))
	list = append(list, slices.Concat(eight, impl.Scheme{{Left: one.Left, Right: one.Right}, {Left: one.Left, Out: one.Out}}))
	if p <= 3 {
		list = append(list, slices.Concat(slices.Repeat(impl.Scheme{one}, p), seven))
	}
	for i := range seven {
		if p > 2 {
			// A product is the sum of its half and its half.
			half := timesOut(p, seven[i], (p+1)/2)
			list = append(list, slices.Concat(seven[:i], impl.Scheme{half}, seven[i+1:], impl.Scheme{half}))
		}
	}
	for range 5 {
		m, inverse := d.withInverse(p)
		list = append(list, basedProducts(p, seven, m, inverse), basedProducts(p, eight, m, inverse))
	}
	return list
}

// otherSchemes returns schemes that do not multiply, though little is missing.
func (d *draw) otherSchemes(p int) []impl.Scheme {
	seven, eight := scheme(p, sevenProducts), eightProducts()
	list := []impl.Scheme{nil, {}, make(impl.Scheme, 1), make(impl.Scheme, 10), seven[:1], eight[:1]}
	for _, s := range []impl.Scheme{seven, eight} {
		backward, turned := slices.Clone(s), slices.Clone(s)
		for i, one := range s {
			backward[i].Left, backward[i].Right = one.Right, one.Left
			turned[i].Out = turnedNumbers(one.Out)
			list = append(list, slices.Concat(s[:i], s[i+1:]), slices.Concat(s, s[i:i+1]), slices.Concat(s[:i], make(impl.Scheme, 1), s[i+1:]))
			if p > 2 {
				list = append(list, slices.Concat(s[:i], impl.Scheme{timesOut(p, one, 2)}, s[i+1:]))
			}
		}
		list = append(list, backward, turned)
		if p > 2 {
			double := slices.Clone(s)
			for i := range double {
				double[i] = timesOut(p, double[i], 2)
			}
			list = append(list, double)
		}
	}
	return append(list, slices.Concat(seven[:4], eight[4:]))
}

func expectScheme(t *testing.T, name string, got impl.Scheme, ok bool, want impl.Scheme) {
	t.Helper()
	if !ok || !slices.Equal(got, want) {
		t.Errorf("%s = %v, %v, want %v", name, got, ok, want)
	}
}

func expectNoScheme(t *testing.T, name string, got impl.Scheme, ok bool) {
	t.Helper()
	if ok || len(got) != 0 {
		t.Errorf("%s = %v, %v, want no products and false", name, got, ok)
	}
}

// expectMadeOf checks what a scheme makes of two matrices of two rows.
func expectMadeOf(t *testing.T, p int, s impl.Scheme, a impl.Matrix, b impl.Matrix) {
	t.Helper()
	got, ok := impl.ApplyScheme(p, s, a, b)
	expectMatrix(t, "ApplyScheme", got, ok, over(p, madeRows(s, a, b)))
}

// expectMadeOfBlocks checks what a scheme makes of two matrices of four rows.
func expectMadeOfBlocks(t *testing.T, p int, s impl.Scheme, a impl.Matrix, b impl.Matrix) {
	t.Helper()
	got, ok := impl.ApplyBlocks(p, s, a, b)
	want := madeOfBlocks(p, s, a, b, func(a impl.Matrix, b impl.Matrix) impl.Matrix { return madeRows(s, a, b) })
	expectMatrix(t, "ApplyBlocks", got, ok, want)
}

// expectMultiplying checks whether a scheme multiplies, and that it makes the
// products of matrices with a single 1 exactly if it does.
func expectMultiplying(t *testing.T, p int, s impl.Scheme, want bool) {
	t.Helper()
	if got := impl.IsMultiplying(p, s); got != want || multipliesOnes(p, s) != want {
		t.Errorf("IsMultiplying(%d, %v) = %v, want %v", p, s, got, want)
	}
	all := true
	for i := range 4 {
		for k := range 4 {
			made, ok := impl.ApplyScheme(p, s, oneAt(2, i), oneAt(2, k))
			all = all && ok && sameRows(made, multiplied(t, p, oneAt(2, i), oneAt(2, k)))
		}
	}
	if all != want {
		t.Errorf("ApplyScheme(%d, %v) makes all products of single ones: %v, want %v", p, s, all, want)
	}
}

func TestSchemeValid(t *testing.T) {
	if impl.MaxProducts != 10 {
		t.Errorf("MaxProducts = %d", impl.MaxProducts)
	}
	d := draw(150)
	for _, p := range primes {
		for products := range 14 {
			for _, s := range []impl.Scheme{make(impl.Scheme, products), d.scheme(p, products, 9), slices.Repeat(eightProducts()[:1], products)} {
				if got := impl.SchemeValid(p, s); got != (products <= 10) {
					t.Errorf("SchemeValid(%d, %v) = %v", p, s, got)
				}
			}
		}
		for n := range p {
			all := [4]int{n, n, n, n}
			if s := slices.Repeat(impl.Scheme{{Left: all, Right: all, Out: all}}, 10); !impl.SchemeValid(p, s) {
				t.Errorf("SchemeValid(%d, %v) = false", p, s)
			}
		}
		if !impl.SchemeValid(p, nil) || !impl.SchemeValid(p, impl.Scheme{}) {
			t.Errorf("SchemeValid(%d, no products) = false", p)
		}
		// Minus 1 in one field is no element of a lesser one.
		for _, other := range primes {
			if got := impl.SchemeValid(other, scheme(p, sevenProducts)); got != (p <= other) {
				t.Errorf("SchemeValid(%d, the seven products over %d) = %v", other, p, got)
			}
		}
	}
}

func TestTheTwoSchemes(t *testing.T) {
	for _, p := range primes {
		seven, ok := impl.StrassenScheme(p)
		expectScheme(t, "StrassenScheme", seven, ok, scheme(p, sevenProducts))
		eight, ok := impl.PlainScheme(p)
		expectScheme(t, "PlainScheme", eight, ok, eightProducts())
		expectMultiplying(t, p, seven, true)
		expectMultiplying(t, p, eight, true)
	}
	for _, p := range noPrimes {
		s, ok := impl.StrassenScheme(p)
		expectNoScheme(t, "StrassenScheme", s, ok)
		s, ok = impl.PlainScheme(p)
		expectNoScheme(t, "PlainScheme", s, ok)
	}
}

// Minus 1 is 1 in the field of 2, and 12 in that of 13.
func TestMinusOneInSchemes(t *testing.T) {
	for p, minus := range map[int]int{2: 1, 3: 2, 5: 4, 7: 6, 11: 10, 13: 12} {
		s, ok := impl.StrassenScheme(p)
		if len(s) != 7 || !ok {
			t.Fatalf("StrassenScheme(%d) = %v, %v", p, s, ok)
		}
		if got := []int{s[1].Out[3], s[2].Right[3], s[3].Right[0], s[4].Out[0], s[5].Left[0], s[6].Left[3]}; !slices.Equal(got, slices.Repeat([]int{minus}, 6)) {
			t.Errorf("over %d, minus 1 is %v, want %d", p, got, minus)
		}
	}
	two, ok := impl.StrassenScheme(2)
	expectScheme(t, "StrassenScheme(2)", two, ok, scheme(2, strings.ReplaceAll(sevenProducts, "-", "")))
}

// The example of the chapter.
func TestSevenProductsAndNotSix(t *testing.T) {
	for _, p := range primes {
		seven, _ := impl.StrassenScheme(p)
		eight, _ := impl.PlainScheme(p)
		if !impl.IsMultiplying(p, seven) || !impl.IsMultiplying(p, eight) {
			t.Errorf("over %d, the seven products multiply: %v, the eight: %v", p, impl.IsMultiplying(p, seven), impl.IsMultiplying(p, eight))
		}
		for _, s := range []impl.Scheme{seven, eight} {
			for i := range s {
				without, ok := impl.WithoutProduct(p, s, i)
				if !ok || len(without) != len(s)-1 {
					t.Errorf("WithoutProduct(%d, %v, %d) = %v, %v", p, s, i, without, ok)
				}
				expectMultiplying(t, p, without, false)
			}
		}
	}
}

func TestSchemesThatMultiply(t *testing.T) {
	d := draw(151)
	for _, p := range primes {
		for _, s := range d.multiplyingSchemes(p) {
			expectMultiplying(t, p, s, true)
			for range 10 {
				a, b := d.matrix(p, 2, 2, 9), d.matrix(p, 2, 2, 9)
				got, ok := impl.ApplyScheme(p, s, a, b)
				expectMatrix(t, "ApplyScheme", got, ok, multiplied(t, p, a, b))
			}
		}
		for _, s := range d.otherSchemes(p) {
			expectMultiplying(t, p, s, false)
		}
		for _, s := range d.schemes(p) {
			expectMultiplying(t, p, s, multipliesOnes(p, s))
		}
	}
}

// No number of the seven products can be another one, because what is changed by
// it is not made good by any other.
func TestSevenProductsWithOneOtherNumber(t *testing.T) {
	for _, p := range primes {
		for i := range 7 {
			for part := range 3 {
				for place := range 4 {
					for more := 1; more < p; more++ {
						s, _ := impl.StrassenScheme(p)
						number := &numbersBeside(&s[i])[part][place]
						*number = (*number + more) % p
						if impl.IsMultiplying(p, s) {
							t.Errorf("IsMultiplying(%d, %v) = true", p, s)
						}
					}
				}
			}
		}
	}
}

// All pairs of matrices over the smallest fields, of the schemes that multiply
// and of some that do not.
func TestAllMatricesBySchemes(t *testing.T) {
	for _, p := range []int{2, 3} {
		var schemes []impl.Scheme
		for _, s := range []impl.Scheme{scheme(p, sevenProducts), eightProducts()} {
			schemes = append(schemes, s, s[1:], s[:len(s)-1])
		}
		for _, s := range schemes {
			all := true
			allSquares(p, 2, func(a impl.Matrix) {
				allSquares(p, 2, func(b impl.Matrix) {
					expectMadeOf(t, p, s, a, b)
					got, _ := impl.ApplyScheme(p, s, a, b)
					all = all && sameRows(got, over(p, product(a, b)))
				})
			})
			if got := impl.IsMultiplying(p, s); got != all {
				t.Errorf("IsMultiplying(%d, %v) = %v, but it makes all products: %v", p, s, got, all)
			}
		}
	}
}

func TestKnownResultsOfSchemes(t *testing.T) {
	known := []struct {
		p            int
		s, a, b, out string
	}{
		{5, sevenProducts, "1 2|3 4", "0 1|2 3", "4 2|3 0"},
		{5, "1 0 0 0|1 0 0 0|1 0 0 0", "1 2|3 4", "3 1|2 3", "3 0|0 0"},
		{5, "0 1 0 0|0 0 1 0|0 0 0 1", "1 2|3 4", "3 1|2 3", "0 0|0 4"},
		{5, "0 0 1 0|0 1 0 0|0 1 0 0", "1 2|3 4", "3 1|2 3", "0 3|0 0"},
		{5, "1 1 1 1|1 1 1 1|1 2 3 4", "1 2|3 4", "3 1|2 3", "0 0|0 0"},
		{7, "1 1 1 1|1 1 1 1|1 2 3 4", "1 2|3 4", "3 1|2 3", "6 5|4 3"},
		{13, "1 2 3 4|4 3 2 1|12 0 1 5", "1 2|3 4", "3 1|2 3", "3 0|10 11"},
		{2, "1 1 0 1|1 1 1 0|1 1 1 1", "1 0|0 0", "0 0|1 0", "1 1|1 1"},
		{2, "1 1 0 1|1 1 1 0|1 1 1 1", "1 1|0 0", "0 0|1 0", "0 0|0 0"},
		{2, "1 1 0 1|1 1 1 0|1 1 1 1", "1 0|0 0", "0 0|0 1", "0 0|0 0"},
		// The same product twice counts twice.
		{5, "1 0 0 0|1 0 0 0|1 0 0 0;1 0 0 0|1 0 0 0|1 0 0 0", "1 2|3 4", "3 1|2 3", "1 0|0 0"},
		{2, "1 0 0 0|1 0 0 0|1 1 1 1;1 0 0 0|1 0 0 0|1 1 1 1", "1 1|1 1", "1 1|1 1", "0 0|0 0"},
		{3, "1 0 0 0|0 0 0 1|1 1 0 1;0 1 0 0|1 0 0 0|0 1 0 0;1 0 0 0|0 0 0 1|1 1 0 1;0 1 0 0|1 0 0 0|0 1 0 0", "1 1|1 1", "1 1|1 1", "2 1|0 2"},
		// Two that differ in Out alone, and in Right alone.
		{5, "1 0 0 0|1 0 0 0|1 0 0 0;1 0 0 0|1 0 0 0|0 0 0 2", "1 2|3 4", "3 1|2 3", "3 0|0 1"},
		{5, "1 0 0 0|1 0 0 0|1 0 0 0;1 0 0 0|0 1 0 0|1 0 0 0", "1 2|3 4", "3 1|2 3", "4 0|0 0"},
		// Products of zeros.
		{5, "0 0 0 0|0 0 0 0|0 0 0 0", "1 2|3 4", "3 1|2 3", "0 0|0 0"},
		{5, "1 1 1 1|0 0 0 0|1 1 1 1", "1 0|0 0", "3 1|2 3", "0 0|0 0"},
		{5, "0 0 0 0|1 1 1 1|1 1 1 1", "1 2|3 4", "1 0|0 0", "0 0|0 0"},
		{5, "1 1 1 1|1 1 1 1|0 0 0 0", "1 0|0 0", "1 0|0 0", "0 0|0 0"},
		{5, "1 1 1 1|1 1 1 1|1 1 1 1", "0 0|0 0", "1 0|0 0", "0 0|0 0"},
		{5, "1 1 1 1|1 1 1 1|1 1 1 1", "1 0|0 0", "0 0|0 0", "0 0|0 0"},
		{5, "0 0 0 0|0 0 0 0|0 0 0 0;1 0 0 0|1 0 0 0|0 2 0 0;0 0 0 0|0 0 0 0|1 1 1 1", "1 2|3 4", "3 1|2 3", "0 1|0 0"},
	}
	for _, k := range known {
		got, ok := impl.ApplyScheme(k.p, scheme(k.p, k.s), rows(k.a), rows(k.b))
		expectMatrix(t, "ApplyScheme of "+k.s, got, ok, rows(k.out))
	}
}

func TestApplyScheme(t *testing.T) {
	d := draw(152)
	for _, p := range primes {
		for _, s := range slices.Concat(d.schemes(p), d.otherSchemes(p)) {
			for zeros := 2; zeros < 8; zeros++ {
				expectMadeOf(t, p, s, d.matrix(p, 2, 2, zeros), d.matrix(p, 2, 2, zeros))
			}
			for _, m := range []impl.Matrix{full(0, 2, 2), diagonal(1, 2), full(p-1, 2, 2)} {
				expectMadeOf(t, p, s, m, d.matrix(p, 2, 2, 9))
				expectMadeOf(t, p, s, d.matrix(p, 2, 2, 9), m)
				expectMadeOf(t, p, s, m, m)
			}
		}
		// Ten products with all numbers as great as they may be.
		all := [4]int{p - 1, p - 1, p - 1, p - 1}
		expectMadeOf(t, p, slices.Repeat(impl.Scheme{{Left: all, Right: all, Out: all}}, 10), full(p-1, 2, 2), full(p-1, 2, 2))
		for _, s := range []impl.Scheme{nil, {}, make(impl.Scheme, 10)} {
			got, ok := impl.ApplyScheme(p, s, full(1, 2, 2), full(1, 2, 2))
			expectMatrix(t, "ApplyScheme of nothing", got, ok, full(0, 2, 2))
		}
	}
}

func TestTurnScheme(t *testing.T) {
	got, ok := impl.TurnScheme(5, scheme(5, "0 1 2 3|4 3 1 0|1 2 4 3;0 0 1 1|1 0 0 0|0 0 1 -1"))
	expectScheme(t, "TurnScheme", got, ok, scheme(5, "4 1 3 0|0 2 1 3|1 4 2 3;1 0 0 0|0 1 0 1|0 1 0 -1"))
	d := draw(153)
	for _, p := range primes {
		for _, s := range slices.Concat(d.schemes(p), d.multiplyingSchemes(p), d.otherSchemes(p)) {
			turned, ok := impl.TurnScheme(p, s)
			var products impl.Scheme
			for _, one := range s {
				products = append(products, impl.Product{Left: turnedNumbers(one.Right), Right: turnedNumbers(one.Left), Out: turnedNumbers(one.Out)})
			}
			expectScheme(t, "TurnScheme", turned, ok, products)
			again, ok := impl.TurnScheme(p, turned)
			expectScheme(t, "TurnScheme twice", again, ok, s)
			if a, b := impl.IsMultiplying(p, s), impl.IsMultiplying(p, turned); a != b {
				t.Errorf("over %d, %v multiplies: %v, turned: %v", p, s, a, b)
			}
			// What it makes is what the scheme makes of both turned, turned.
			a, b := d.matrix(p, 2, 2, 9), d.matrix(p, 2, 2, 9)
			first, _ := impl.TurnMatrix(p, b)
			second, _ := impl.TurnMatrix(p, a)
			made, _ := impl.ApplyScheme(p, s, first, second)
			want, _ := impl.TurnMatrix(p, made)
			got, ok := impl.ApplyScheme(p, turned, a, b)
			expectMatrix(t, "ApplyScheme of TurnScheme", got, ok, want)
		}
	}
}

// expectBased checks the scheme with a matrix and its inverse between the two.
func expectBased(t *testing.T, p int, s impl.Scheme, m impl.Matrix) {
	t.Helper()
	based, ok := impl.BasisScheme(p, s, m)
	inverse, has := inverseRows(p, m)
	if !has {
		expectNoScheme(t, "BasisScheme by a matrix without an inverse", based, ok)
		return
	}
	expectScheme(t, "BasisScheme", based, ok, basedProducts(p, s, m, inverse))
	back, ok := impl.BasisScheme(p, based, inverse)
	expectScheme(t, "BasisScheme by the matrix and its inverse", back, ok, s)
	if a, b := impl.IsMultiplying(p, s), impl.IsMultiplying(p, based); a != b {
		t.Errorf("over %d, %v multiplies: %v, with %v between: %v", p, s, a, m, b)
	}
}

func TestKnownBases(t *testing.T) {
	known := []struct {
		p               int
		s, m, different string
	}{
		{5, "1 0 0 1|1 0 0 1|1 0 0 1", "1 1|0 1", "1 0 1 1|1 0 -1 1|1 0 0 1"},
		{5, "1 2 3 4|4 3 2 1|1 2 3 0", "2 0|0 3", "2 1 1 2|2 4 4 2|1 2 3 0"},
		{5, "1 2 3 4|4 3 2 1|1 2 3 0", "0 1|1 0", "2 1 4 3|2 1 4 3|1 2 3 0"},
		{2, "1 0 0 0|1 0 0 0|1 0 0 0", "1 1|1 0", "1 1 0 0|0 0 1 0|1 0 0 0"},
		{7, "0 0 0 0|0 0 0 0|1 2 3 4", "1 2|3 4", "0 0 0 0|0 0 0 0|1 2 3 4"},
	}
	for _, k := range known {
		got, ok := impl.BasisScheme(k.p, scheme(k.p, k.s), rows(k.m))
		expectScheme(t, "BasisScheme by "+k.m, got, ok, scheme(k.p, k.different))
	}
	for _, text := range []string{"0 0|0 0", "1 2|2 4", "0 0|1 2", "1 0|2 0", "0 3|0 0", "1 1|1 1", "3 1|3 1"} {
		for _, s := range []impl.Scheme{nil, eightProducts(), scheme(5, sevenProducts)} {
			got, ok := impl.BasisScheme(5, s, rows(text))
			expectNoScheme(t, "BasisScheme by "+text, got, ok)
		}
	}
}

func TestBasisScheme(t *testing.T) {
	d := draw(154)
	for _, p := range []int{2, 3, 5} {
		allSquares(p, 2, func(m impl.Matrix) {
			for _, s := range []impl.Scheme{nil, scheme(p, sevenProducts), eightProducts(), d.scheme(p, 10, 9)} {
				expectBased(t, p, s, m)
			}
		})
	}
	for _, p := range primes {
		for _, s := range slices.Concat(d.schemes(p), d.multiplyingSchemes(p), d.otherSchemes(p)) {
			same, ok := impl.BasisScheme(p, s, diagonal(1, 2))
			expectScheme(t, "BasisScheme by the matrix with ones", same, ok, s)
			expectBased(t, p, s, d.matrix(p, 2, 2, 9))
			m, inverse := d.withInverse(p)
			expectBased(t, p, s, m)
			based, _ := impl.BasisScheme(p, s, m)
			a, b := d.matrix(p, 2, 2, 9), d.matrix(p, 2, 2, 9)
			got, ok := impl.ApplyScheme(p, based, a, b)
			want, _ := impl.ApplyScheme(p, s, multiplied(t, p, a, m), multiplied(t, p, inverse, b))
			expectMatrix(t, "ApplyScheme of BasisScheme", got, ok, want)
			// Two matrices, one after the other, are their product.
			n, _ := d.withInverse(p)
			twice, ok := impl.BasisScheme(p, based, n)
			once, _ := impl.BasisScheme(p, s, multiplied(t, p, n, m))
			expectScheme(t, "BasisScheme by two matrices", twice, ok, once)
		}
	}
}

func TestWithoutProduct(t *testing.T) {
	d := draw(155)
	for _, p := range primes {
		for _, s := range slices.Concat(d.schemes(p), d.multiplyingSchemes(p), d.otherSchemes(p)) {
			for i := range s {
				var want impl.Scheme
				for k, one := range s {
					if k != i {
						want = append(want, one)
					}
				}
				got, ok := impl.WithoutProduct(p, s, i)
				expectScheme(t, "WithoutProduct", got, ok, want)
			}
			for _, i := range []int{math.MinInt, -len(s), -1, len(s), len(s) + 1, 10, 11, math.MaxInt} {
				if i < 0 || i >= len(s) {
					got, ok := impl.WithoutProduct(p, s, i)
					expectNoScheme(t, "WithoutProduct of no index", got, ok)
				}
			}
		}
	}
	// The first product and the last one, and the only one.
	s := scheme(5, "1 0 0 0|1 0 0 0|1 0 0 0;2 0 0 0|1 0 0 0|1 0 0 0;1 0 0 0|1 0 0 0|1 0 0 0")
	got, ok := impl.WithoutProduct(5, s, 0)
	expectScheme(t, "WithoutProduct 0", got, ok, s[1:])
	got, ok = impl.WithoutProduct(5, s, 2)
	expectScheme(t, "WithoutProduct 2", got, ok, s[:2])
	got, ok = impl.WithoutProduct(5, s[:1], 0)
	expectScheme(t, "WithoutProduct of the only one", got, ok, nil)
}

func TestKnownBlocks(t *testing.T) {
	a, b := rows("1 2 3 4|0 1 0 2|3 0 1 1|2 2 4 0"), rows("2 0 0 0|0 0 0 3|0 0 0 0|1 0 0 0")
	known := []struct{ s, out string }{
		{sevenProducts, "1 0 0 1|2 0 0 3|2 0 0 0|4 0 0 1"},
		// One element of one block, and one of a block elsewhere.
		{"1 0 0 0|1 0 0 0|1 0 0 0", "2 0 0 0|0 0 0 0|0 0 0 0|0 0 0 0"},
		{"0 0 1 0|1 0 0 0|0 1 0 0", "0 0 0 4|0 0 0 0|0 0 0 0|0 0 0 0"},
		{"1 1 1 1|1 1 1 1|0 0 0 2", "0 0 0 0|0 0 0 0|0 0 0 0|0 0 0 4"},
		{"0 0 0 0|1 1 1 1|1 1 1 1", "0 0 0 0|0 0 0 0|0 0 0 0|0 0 0 0"},
	}
	for _, k := range known {
		got, ok := impl.ApplyBlocks(5, scheme(5, k.s), a, b)
		expectMatrix(t, "ApplyBlocks of "+k.s, got, ok, rows(k.out))
	}
}

// Schemes that multiply elements multiply blocks.
func TestBlocksAreMultiplied(t *testing.T) {
	d := draw(156)
	for _, p := range primes {
		for _, s := range d.multiplyingSchemes(p) {
			for zeros := 2; zeros < 6; zeros++ {
				a, b := d.matrix(p, 4, 4, zeros), d.matrix(p, 4, 4, zeros)
				got, ok := impl.ApplyBlocks(p, s, a, b)
				expectMatrix(t, "ApplyBlocks", got, ok, multiplied(t, p, a, b))
			}
		}
		for _, s := range []impl.Scheme{scheme(p, sevenProducts), eightProducts()} {
			for _, m := range []impl.Matrix{full(0, 4, 4), diagonal(1, 4), full(p-1, 4, 4)} {
				other := d.matrix(p, 4, 4, 9)
				for _, pair := range [][2]impl.Matrix{{m, other}, {other, m}, {m, m}} {
					got, ok := impl.ApplyBlocks(p, s, pair[0], pair[1])
					expectMatrix(t, "ApplyBlocks", got, ok, multiplied(t, p, pair[0], pair[1]))
				}
			}
		}
	}
	for i := range 16 {
		for k := range 16 {
			for _, s := range []impl.Scheme{scheme(3, sevenProducts), eightProducts()} {
				got, ok := impl.ApplyBlocks(3, s, oneAt(4, i), oneAt(4, k))
				expectMatrix(t, "ApplyBlocks of single ones", got, ok, product(oneAt(4, i), oneAt(4, k)))
			}
		}
	}
}

// Without one of the products, blocks are not multiplied either.
func TestBlocksWithoutOneProduct(t *testing.T) {
	for _, p := range []int{2, 5} {
		for i := range 7 {
			seven, _ := impl.StrassenScheme(p)
			six, _ := impl.WithoutProduct(p, seven, i)
			wrong := 0
			for n := range 256 {
				a, b := oneAt(4, n/16), oneAt(4, n%16)
				expectMadeOfBlocks(t, p, six, a, b)
				if got, _ := impl.ApplyBlocks(p, six, a, b); !sameRows(got, product(a, b)) {
					wrong++
				}
			}
			if wrong == 0 {
				t.Errorf("over %d, blocks are multiplied without the product %d", p, i)
			}
		}
	}
}

// Schemes that do not multiply are used for the blocks and within them too.
func TestBlocksOfOtherSchemes(t *testing.T) {
	d := draw(157)
	for _, p := range primes {
		within := 0
		for _, s := range slices.Concat(d.schemes(p), d.otherSchemes(p)) {
			for zeros := 2; zeros < 6; zeros++ {
				a, b := d.matrix(p, 4, 4, zeros), d.matrix(p, 4, 4, zeros)
				expectMadeOfBlocks(t, p, s, a, b)
				got, _ := impl.ApplyBlocks(p, s, a, b)
				if !sameRows(got, madeOfBlocks(p, s, a, b, product)) {
					within++
				}
			}
		}
		if within < 50 {
			t.Errorf("over %d, blocks that are multiplied otherwise make a difference %d times", p, within)
		}
		for _, s := range []impl.Scheme{nil, {}, make(impl.Scheme, 10)} {
			got, ok := impl.ApplyBlocks(p, s, full(1, 4, 4), full(1, 4, 4))
			expectMatrix(t, "ApplyBlocks of nothing", got, ok, full(0, 4, 4))
		}
	}
}

// noSchemes are no schemes over the field of p.
func noSchemes(p int) []impl.Scheme {
	eight := eightProducts()
	// The first ones would multiply, or be 0, if there were not too many products.
	list := []impl.Scheme{slices.Concat(eight, make(impl.Scheme, 3)), make(impl.Scheme, 11), make(impl.Scheme, 100), slices.Repeat(eight, 2)}
	for _, number := range outsideOf(p) {
		for part := range 3 {
			for place := range 4 {
				one := make(impl.Scheme, 1)
				numbersBeside(&one[0])[part][place] = number
				ten := slices.Concat(eight, make(impl.Scheme, 1), one)
				seven := scheme(p, sevenProducts)
				numbersBeside(&seven[3])[part][place] = number
				list = append(list, one, ten, seven, slices.Concat(one, eight))
			}
		}
	}
	return list
}

// expectNothingOfScheme checks all functions for products that are no scheme.
func expectNothingOfScheme(t *testing.T, p int, s impl.Scheme) {
	t.Helper()
	if impl.SchemeValid(p, s) || impl.IsMultiplying(p, s) {
		t.Errorf("SchemeValid, IsMultiplying(%d, %v) = %v, %v", p, s, impl.SchemeValid(p, s), impl.IsMultiplying(p, s))
	}
	other, ok := impl.TurnScheme(p, s)
	expectNoScheme(t, "TurnScheme", other, ok)
	for _, m := range []impl.Matrix{diagonal(1, 2), rows("0 1|1 1"), full(0, 2, 2), diagonal(1, 4), nil} {
		other, ok = impl.BasisScheme(p, s, m)
		expectNoScheme(t, "BasisScheme", other, ok)
		got, ok := impl.ApplyScheme(p, s, m, m)
		expectNoMatrix(t, "ApplyScheme", got, ok)
		got, ok = impl.ApplyBlocks(p, s, m, m)
		expectNoMatrix(t, "ApplyBlocks", got, ok)
	}
	for _, i := range []int{-1, 0, 6, len(s) - 1, len(s), math.MaxInt} {
		other, ok = impl.WithoutProduct(p, s, i)
		expectNoScheme(t, "WithoutProduct", other, ok)
	}
}

func TestNoSchemes(t *testing.T) {
	for _, p := range primes {
		for _, s := range noSchemes(p) {
			expectNothingOfScheme(t, p, s)
		}
	}
	for _, p := range noPrimes {
		for _, s := range []impl.Scheme{nil, {}, make(impl.Scheme, 1), make(impl.Scheme, 10), eightProducts(), scheme(2, sevenProducts), scheme(13, sevenProducts)} {
			expectNothingOfScheme(t, p, s)
		}
	}
	// Minus 1 as it stands in the table is no element.
	seven := scheme(5, sevenProducts)
	for i := range seven {
		for _, list := range numbersBeside(&seven[i]) {
			for place, n := range list {
				if n == 4 {
					list[place] = -1
				}
			}
		}
	}
	expectNothingOfScheme(t, 5, seven)
	// Minus 1 of another field is none of a lesser one.
	expectNothingOfScheme(t, 5, scheme(7, sevenProducts))
	expectNothingOfScheme(t, 2, scheme(3, sevenProducts))
}

func TestMatricesForNoScheme(t *testing.T) {
	for _, p := range primes {
		list := noMatrices(p)
		for shape := range 4 * 4 {
			side, columns := 1+shape%4, 1+shape/4
			list = append(list, full(1, side, columns), full(0, side, columns))
			if side == columns {
				list = append(list, diagonal(1, side))
			}
		}
		for _, s := range []impl.Scheme{nil, scheme(p, sevenProducts), eightProducts()} {
			for _, m := range list {
				expectNotTaken(t, p, s, m)
			}
		}
	}
}

// expectNotTaken checks that rows are not taken by the functions that ask for
// two rows, or for four, unless there are so many.
func expectNotTaken(t *testing.T, p int, s impl.Scheme, m impl.Matrix) {
	t.Helper()
	isMatrix := impl.MatrixValid(p, m) && len(m) == len(m[0])
	if !isMatrix || len(m) != 2 {
		other := diagonal(1, 2)
		for _, pair := range [][2]impl.Matrix{{m, other}, {other, m}, {m, m}} {
			got, ok := impl.ApplyScheme(p, s, pair[0], pair[1])
			expectNoMatrix(t, "ApplyScheme", got, ok)
		}
		based, ok := impl.BasisScheme(p, s, m)
		expectNoScheme(t, "BasisScheme", based, ok)
	}
	if !isMatrix || len(m) != 4 {
		other := diagonal(1, 4)
		for _, pair := range [][2]impl.Matrix{{m, other}, {other, m}, {m, m}} {
			got, ok := impl.ApplyBlocks(p, s, pair[0], pair[1])
			expectNoMatrix(t, "ApplyBlocks", got, ok)
		}
	}
}

func TestSchemesShareNoMemory(t *testing.T) {
	junk := impl.Product{Left: [4]int{-7}, Right: [4]int{-7}, Out: [4]int{-7}}
	spaced := slices.Concat(scheme(5, sevenProducts), impl.Scheme{junk, junk, junk, junk, junk, junk})
	before := slices.Clone(spaced)
	s := spaced[:7]
	a, b := spacious(rows("1 2|3 4")), spacious(diagonal(1, 2))
	m, n := spacious(rows("1 2 3 4|0 1 0 2|3 0 1 1|2 2 4 0")), spacious(diagonal(1, 4))
	row := []int{1, 1, 1, 1}
	same := impl.Matrix{row, row, row, row}
	arguments := []impl.Matrix{a, b, m, n, same}
	var rowsBefore []impl.Matrix
	for _, argument := range arguments {
		rowsBefore = append(rowsBefore, whole(argument))
	}
	for name, call := range map[string]func() (impl.Scheme, bool){
		"PlainScheme":                 func() (impl.Scheme, bool) { return impl.PlainScheme(5) },
		"StrassenScheme":              func() (impl.Scheme, bool) { return impl.StrassenScheme(5) },
		"TurnScheme":                  func() (impl.Scheme, bool) { return impl.TurnScheme(5, s) },
		"TurnScheme of nothing":       func() (impl.Scheme, bool) { return impl.TurnScheme(5, s[:0]) },
		"BasisScheme":                 func() (impl.Scheme, bool) { return impl.BasisScheme(5, s, a) },
		"BasisScheme by ones":         func() (impl.Scheme, bool) { return impl.BasisScheme(5, s, b) },
		"BasisScheme of nothing":      func() (impl.Scheme, bool) { return impl.BasisScheme(5, s[:0], b) },
		"WithoutProduct the first":    func() (impl.Scheme, bool) { return impl.WithoutProduct(5, s, 0) },
		"WithoutProduct the last":     func() (impl.Scheme, bool) { return impl.WithoutProduct(5, s, 6) },
		"WithoutProduct in between":   func() (impl.Scheme, bool) { return impl.WithoutProduct(5, s, 3) },
		"WithoutProduct the only one": func() (impl.Scheme, bool) { return impl.WithoutProduct(5, s[:1], 0) },
	} {
		expectNew(t, name, impl.Product{Left: [4]int{-8}}, call)
	}
	for name, call := range map[string]func() (impl.Matrix, bool){
		"ApplyScheme":              func() (impl.Matrix, bool) { return impl.ApplyScheme(5, s, a, a) },
		"ApplyScheme by ones":      func() (impl.Matrix, bool) { return impl.ApplyScheme(5, s, a, b) },
		"ApplyScheme of nothing":   func() (impl.Matrix, bool) { return impl.ApplyScheme(5, s[:0], a, b) },
		"ApplyBlocks":              func() (impl.Matrix, bool) { return impl.ApplyBlocks(5, s, m, m) },
		"ApplyBlocks by ones":      func() (impl.Matrix, bool) { return impl.ApplyBlocks(5, s, n, m) },
		"ApplyBlocks of nothing":   func() (impl.Matrix, bool) { return impl.ApplyBlocks(5, s[:0], n, m) },
		"ApplyBlocks of same rows": func() (impl.Matrix, bool) { return impl.ApplyBlocks(5, s, same, same) },
	} {
		expectNewMatrix(t, name, call)
	}
	impl.SchemeValid(5, s)
	impl.IsMultiplying(5, s)
	if !slices.Equal(spaced, before) {
		t.Errorf("the scheme has changed: %v", spaced)
	}
	for i, argument := range arguments {
		if !sameRows(whole(argument), rowsBefore[i]) {
			t.Errorf("an argument has changed: %v, where it was %v", whole(argument), rowsBefore[i])
		}
	}
}

// Calls at the same time have the results that each one has alone.
func TestSchemesAtTheSameTime(t *testing.T) {
	shared := scheme(5, sevenProducts)
	a, b := rows("1 2 3 4|0 1 0 2|3 0 1 1|2 2 4 0"), rows("2 0 0 1|4 3 2 1|0 0 1 0|1 1 1 1")
	d := draw(158)
	var calls sync.WaitGroup
	for n := range 40 {
		p := primes[n%len(primes)]
		s := d.scheme(p, 10, 4)
		small, great, m := d.matrix(p, 2, 2, 9), d.matrix(p, 4, 4, 9), d.matrix(p, 2, 2, 9)
		calls.Go(func() {
			expectMadeOf(t, p, s, small, m)
			expectMadeOfBlocks(t, p, s, great, great)
			expectBased(t, p, s, m)
			expectMadeOfBlocks(t, 5, shared, a, b)
			expectMultiplying(t, 5, shared, true)
		})
	}
	calls.Wait()
}

func TestProductsAreJoined(t *testing.T) {
	d := draw(159)
	expectAllEnded(t, func() {
		for _, p := range primes {
			for _, s := range d.schemes(p) {
				impl.ApplyScheme(p, s, d.matrix(p, 2, 2, 9), d.matrix(p, 2, 2, 9))
				impl.ApplyBlocks(p, s, d.matrix(p, 4, 4, 9), d.matrix(p, 4, 4, 9))
			}
		}
	})
}
