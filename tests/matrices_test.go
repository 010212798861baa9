package tests

import (
	"math"
	"slices"
	"strconv"
	"strings"
	"sync"
	"testing"

	"loop.example/polycircuits/impl"
)

// rows returns the rows of a text, in which they have `|` between them.
func rows(s string) impl.Matrix {
	var m impl.Matrix
	for part := range strings.SplitSeq(s, "|") {
		var row []int
		for field := range strings.FieldsSeq(part) {
			n, err := strconv.Atoi(field)
			if err != nil {
				panic(err)
			}
			row = append(row, n)
		}
		m = append(m, row)
	}
	return m
}

// full returns rows with the same number everywhere.
func full(n int, side int, columns int) impl.Matrix {
	m := make(impl.Matrix, side)
	for i := range m {
		m[i] = slices.Repeat([]int{n}, columns)
	}
	return m
}

// diagonal returns square rows with a number from corner to corner and 0 elsewhere.
func diagonal(n int, side int) impl.Matrix {
	m := full(0, side, side)
	for i := range m {
		m[i][i] = n
	}
	return m
}

func copyOf(m impl.Matrix) impl.Matrix {
	result := make(impl.Matrix, len(m))
	for i, row := range m {
		result[i] = slices.Clone(row)
	}
	return result
}

func sameRows(a impl.Matrix, b impl.Matrix) bool {
	return slices.EqualFunc(a, b, func(x []int, y []int) bool { return slices.Equal(x, y) })
}

// over returns rows with each number reduced.
func over(p int, m impl.Matrix) impl.Matrix {
	result := copyOf(m)
	for _, row := range result {
		for k, n := range row {
			row[k] = remainder(p, n)
		}
	}
	return result
}

// product returns the product of rows of any numbers.
func product(a impl.Matrix, b impl.Matrix) impl.Matrix {
	result := full(0, len(a), len(b[0]))
	for i, row := range a {
		for j, n := range row {
			for k, other := range b[j] {
				result[i][k] += n * other
			}
		}
	}
	return result
}

// without returns rows without one of them and without a column.
func without(m impl.Matrix, row int, column int) impl.Matrix {
	result := slices.Delete(copyOf(m), row, row+1)
	for i := range result {
		result[i] = slices.Delete(result[i], column, column+1)
	}
	return result
}

// expandedBy returns what square rows of any numbers are expanded to by their
// first column, each next product with a sign more: with -1 the determinant,
// with 1 the permanent.
func expandedBy(sign int, m impl.Matrix) int {
	if len(m) == 0 {
		return 1
	}
	sum, times := 0, 1
	for i := range m {
		sum += times * m[i][0] * expandedBy(sign, without(m, i, 0))
		times *= sign
	}
	return sum
}

// adjugateRows returns what stands in the adjugate, as any numbers.
func adjugateRows(m impl.Matrix) impl.Matrix {
	result := full(0, len(m), len(m))
	for i := range m {
		for k := range m {
			result[i][k] = expandedBy(-1, without(m, k, i))
			if (i+k)%2 == 1 {
				result[i][k] = -result[i][k]
			}
		}
	}
	return result
}

// rankBySums returns how many of the rows are none of the sums of multiples of
// those before them.
func rankBySums(p int, m impl.Matrix) int {
	rank := 0
	sums := map[[4]int]bool{{}: true}
	for _, row := range m {
		var added [4]int
		copy(added[:], row)
		if sums[added] {
			continue
		}
		rank++
		more := map[[4]int]bool{}
		for sum := range sums {
			for range p {
				for k := range sum {
					sum[k] = (sum[k] + added[k]) % p
				}
				more[sum] = true
			}
		}
		sums = more
	}
	return rank
}

// characterRows returns the characteristic polynomial of square rows of any
// numbers, made of the sums from corner to corner of products alone.
func characterRows(m impl.Matrix) plain {
	result := plain{powers{len(m), 0, 0}: 1}
	next := copyOf(m)
	for n := 1; n <= len(m); n++ {
		sum := 0
		for i := range next {
			sum += next[i][i]
		}
		// It is a multiple of n, so that nothing is lost.
		result[powers{len(m) - n, 0, 0}] = -sum / n
		for i := range next {
			next[i][i] -= sum / n
		}
		next = product(m, next)
	}
	return result
}

// matrix returns drawn rows, with a 0 at about one of zeros places.
func (d *draw) matrix(p int, side int, columns int, zeros int) impl.Matrix {
	m := full(0, side, columns)
	for _, row := range m {
		for k := range row {
			if d.below(zeros) > 0 {
				row[k] = d.below(p)
			}
		}
	}
	return m
}

// fromOthers makes one of several rows a sum of multiples of the others, which
// is also 0, one of them or a multiple of one now and then.
func (d *draw) fromOthers(p int, m impl.Matrix) {
	changed := d.below(len(m))
	sum := make([]int, len(m[0]))
	for i, row := range m {
		if times := d.below(p + 1); i != changed && times < p {
			for k := range row {
				sum[k] = (sum[k] + times*row[k]) % p
			}
		}
	}
	copy(m[changed], sum)
}

// matrices returns rows and columns of given numbers, some of which have rows
// that come from others, and columns too.
func (d *draw) matrices(p int, side int, columns int) []impl.Matrix {
	list := []impl.Matrix{full(0, side, columns), full(1, side, columns), full(p-1, side, columns)}
	for n := range 60 {
		m := d.matrix(p, side, columns, 2+d.below(9))
		for range max(0, n%6-2) {
			d.fromOthers(p, m)
		}
		list = append(list, m)
	}
	return list
}

// eachSquare calls for all square matrices that are drawn, of each field and side.
func eachSquare(seed draw, check func(d *draw, p int, m impl.Matrix)) {
	for _, p := range primes {
		for side := 1; side <= 4; side++ {
			for _, m := range seed.matrices(p, side, side) {
				check(&seed, p, m)
			}
		}
	}
}

// allSquares calls for all square matrices that there are of a field and side.
func allSquares(p int, side int, check func(m impl.Matrix)) {
	count := 1
	for range side * side {
		count *= p
	}
	for number := range count {
		m := full(0, side, side)
		for place := range side * side {
			m[place/side][place%side] = number % p
			number /= p
		}
		check(m)
	}
}

func expectMatrix(t *testing.T, name string, got impl.Matrix, ok bool, want impl.Matrix) {
	t.Helper()
	if !ok || !sameRows(got, want) {
		t.Errorf("%s = %v, %v, want %v", name, got, ok, want)
	}
}

func expectNoMatrix(t *testing.T, name string, got impl.Matrix, ok bool) {
	t.Helper()
	if ok || len(got) != 0 {
		t.Errorf("%s = %v, %v, want no rows and false", name, got, ok)
	}
}

// multiplied returns a product, which must be there.
func multiplied(t *testing.T, p int, a impl.Matrix, b impl.Matrix) impl.Matrix {
	t.Helper()
	result, ok := impl.MulMatrix(p, a, b)
	expectMatrix(t, "MulMatrix", result, ok, over(p, product(a, b)))
	return result
}

// noMatrices are no matrices over the field of p.
func noMatrices(p int) []impl.Matrix {
	list := []impl.Matrix{nil, {}, full(0, 5, 1), full(0, 1, 5), full(1, 5, 5), full(0, 5, 4), full(0, 4, 5), full(0, 9, 2), full(0, 2, 9), make(impl.Matrix, 5)}
	for n := 1; n <= 4; n++ {
		list = append(list, make(impl.Matrix, n), full(0, n, 0))
		for i := range n {
			for columns := range 7 {
				if columns != n && n > 1 {
					m := diagonal(1, n)
					m[i] = make([]int, columns)
					list = append(list, m)
				}
			}
			for k := range n {
				for _, number := range outsideOf(p) {
					m := diagonal(1, n)
					m[i][k] = number
					list = append(list, m)
				}
			}
		}
	}
	return append(list, rows("1 1|1"), rows("1|1 1"), rows("1 0|0 1|0"), rows("1|0 1|0 0"), rows("0 1|0 1|1 0|1"))
}

func TestMatrixValid(t *testing.T) {
	if impl.MaxSide != 4 {
		t.Errorf("MaxSide = %d", impl.MaxSide)
	}
	for _, p := range primes {
		for side := range 7 {
			for columns := range 7 {
				for _, n := range []int{0, 1, p - 1} {
					want := side >= 1 && side <= 4 && columns >= 1 && columns <= 4
					if got := impl.MatrixValid(p, full(n, side, columns)); got != want {
						t.Errorf("MatrixValid(%d, %v) = %v", p, full(n, side, columns), got)
					}
				}
			}
		}
		for _, m := range noMatrices(p) {
			if impl.MatrixValid(p, m) {
				t.Errorf("MatrixValid(%d, %v) = true", p, m)
			}
		}
		every := full(0, 4, 4)
		for n := range p {
			every[n/4][n%4] = n
		}
		if !impl.MatrixValid(p, every) {
			t.Errorf("MatrixValid(%d, %v) = false", p, every)
		}
	}
	for _, p := range noPrimes {
		for _, m := range []impl.Matrix{full(0, 1, 1), diagonal(1, 2), full(1, 4, 4)} {
			if impl.MatrixValid(p, m) {
				t.Errorf("MatrixValid(%d, %v) = true", p, m)
			}
		}
	}
}

func TestOnesMatrix(t *testing.T) {
	known := map[int]string{1: "1", 2: "1 0|0 1", 3: "1 0 0|0 1 0|0 0 1", 4: "1 0 0 0|0 1 0 0|0 0 1 0|0 0 0 1"}
	for _, p := range primes {
		for n, text := range known {
			got, ok := impl.OnesMatrix(p, n)
			expectMatrix(t, "OnesMatrix", got, ok, rows(text))
		}
		for _, n := range []int{math.MinInt, -4, -1, 0, 5, 6, 16, math.MaxInt} {
			got, ok := impl.OnesMatrix(p, n)
			expectNoMatrix(t, "OnesMatrix of "+strconv.Itoa(n), got, ok)
		}
	}
	for _, p := range noPrimes {
		for n := range 6 {
			got, ok := impl.OnesMatrix(p, n)
			expectNoMatrix(t, "OnesMatrix over "+strconv.Itoa(p), got, ok)
		}
	}
}

func TestMulMatrix(t *testing.T) {
	known := []struct {
		p             int
		a, b, product string
	}{
		{5, "1 2|3 4", "1 2|3 4", "2 0|0 2"},
		{5, "3", "4", "2"},
		{5, "0", "4", "0"},
		{2, "1 1|0 1", "1 1|0 1", "1 0|0 1"},
		{2, "1 1", "1|1", "0"},
		{7, "1 2 3", "4|5|6", "4"},
		{7, "4|5|6", "1 2 3", "4 1 5|5 3 1|6 5 4"},
		{5, "1 2|3 4", "0 1|0 0", "0 1|0 3"},
		{5, "0 1|0 0", "1 2|3 4", "3 4|0 0"},
		{13, "12 12 12 12", "12|12|12|12", "4"},
		{11, "1 2|3 4|5 6|7 8", "1 0 2|0 1 3", "1 2 8|3 4 7|5 6 6|7 8 5"},
	}
	for _, c := range known {
		got, ok := impl.MulMatrix(c.p, rows(c.a), rows(c.b))
		expectMatrix(t, c.a+" times "+c.b, got, ok, rows(c.product))
	}
	d := draw(90)
	for _, p := range primes {
		for shape := range 4 * 4 * 4 * 4 {
			a := d.matrix(p, 1+shape%4, 1+shape/4%4, 9)
			b := d.matrix(p, 1+shape/16%4, 1+shape/64, 9)
			got, ok := impl.MulMatrix(p, a, b)
			if len(a[0]) == len(b) {
				expectMatrix(t, "MulMatrix", got, ok, over(p, product(a, b)))
			} else {
				expectNoMatrix(t, "MulMatrix of sides that do not fit", got, ok)
			}
		}
	}
}

func TestProductsOfThreeAndOfOnes(t *testing.T) {
	d := draw(91)
	for _, p := range primes {
		for shape := range 4 * 4 * 4 * 4 {
			a := d.matrix(p, 1+shape%4, 1+shape/4%4, 9)
			b := d.matrix(p, len(a[0]), 1+shape/16%4, 9)
			c := d.matrix(p, len(b[0]), 1+shape/64, 9)
			first, second := multiplied(t, p, a, b), multiplied(t, p, b, c)
			expectMatrix(t, "a times b and c", multiplied(t, p, a, second), true, multiplied(t, p, first, c))
			left, isLeft := impl.OnesMatrix(p, len(a))
			right, isRight := impl.OnesMatrix(p, len(a[0]))
			expectMatrix(t, "ones times a", multiplied(t, p, left, a), isLeft, a)
			expectMatrix(t, "a times ones", multiplied(t, p, a, right), isRight, a)
		}
	}
}

func TestTurnMatrix(t *testing.T) {
	known := map[string]string{
		"3": "3", "1 2": "1|2", "1|2": "1 2", "1 2|3 4": "1 3|2 4", "1 2 3 4": "1|2|3|4", "1|2|3|4": "1 2 3 4",
		"0 1 2|3 4 0": "0 3|1 4|2 0", "1 2|3 4|0 1|2 3": "1 3 0 2|2 4 1 3", "1 2 3 4|0 0 0 0|4 3 2 1|0 1 0 1": "1 0 4 0|2 0 3 1|3 0 2 0|4 0 1 1",
	}
	for text, want := range known {
		got, ok := impl.TurnMatrix(5, rows(text))
		expectMatrix(t, "TurnMatrix of "+text, got, ok, rows(want))
	}
	d := draw(92)
	for _, p := range primes {
		for shape := range 4 * 4 * 4 {
			a := d.matrix(p, 1+shape%4, 1+shape/4%4, 9)
			b := d.matrix(p, len(a[0]), 1+shape/16, 9)
			turned, ok := impl.TurnMatrix(p, a)
			want := full(-1, len(a[0]), len(a))
			for i, row := range a {
				for k, n := range row {
					want[k][i] = n
				}
			}
			expectMatrix(t, "TurnMatrix", turned, ok, want)
			again, ok := impl.TurnMatrix(p, turned)
			expectMatrix(t, "TurnMatrix twice", again, ok, a)
			other, _ := impl.TurnMatrix(p, b)
			last, ok := impl.TurnMatrix(p, multiplied(t, p, a, b))
			expectMatrix(t, "TurnMatrix of a product", last, ok, multiplied(t, p, other, turned))
		}
	}
}

func TestMinorOf(t *testing.T) {
	known := []struct {
		m           string
		row, column int
		minor       string
	}{
		{"1 2|3 4", 0, 0, "4"},
		{"1 2|3 4", 0, 1, "3"},
		{"1 2|3 4", 1, 0, "2"},
		{"1 2|3 4", 1, 1, "1"},
		{"1 2 3|4 0 1", 0, 1, "4 1"},
		{"1 2 3|4 0 1", 1, 2, "1 2"},
		{"1 2|3 4|0 1", 1, 0, "2|1"},
		{"1 2|3 4|0 1", 2, 1, "1|3"},
		{"1 2 3|4 0 1|2 3 4", 1, 1, "1 3|2 4"},
		{"1 2 3 4|0 1 2 3|4 0 1 2|3 4 0 1", 3, 0, "2 3 4|1 2 3|0 1 2"},
		{"1 2 3 4|0 1 2 3|4 0 1 2|3 4 0 1", 0, 3, "0 1 2|4 0 1|3 4 0"},
	}
	for _, c := range known {
		got, ok := impl.MinorOf(5, rows(c.m), c.row, c.column)
		expectMatrix(t, "MinorOf "+c.m, got, ok, rows(c.minor))
	}
	d := draw(93)
	for _, p := range primes {
		for shape := range 4 * 4 {
			m := d.matrix(p, 1+shape%4, 1+shape/4, 9)
			for _, row := range []int{math.MinInt, -1, 0, 1, 2, 3, 4, 5, math.MaxInt} {
				for _, column := range []int{math.MinInt, -1, 0, 1, 2, 3, 4, 5, math.MaxInt} {
					isPlace := row >= 0 && row < len(m) && column >= 0 && column < len(m[0])
					got, ok := impl.MinorOf(p, m, row, column)
					if isPlace && len(m) > 1 && len(m[0]) > 1 {
						expectMatrix(t, "MinorOf", got, ok, without(m, row, column))
					} else {
						expectNoMatrix(t, "MinorOf", got, ok)
					}
				}
			}
		}
	}
}

func TestKnownDeterminants(t *testing.T) {
	known := []struct {
		p              int
		m              string
		det, permanent int
	}{
		{5, "1 2|3 4", 3, 0},
		{5, "0", 0, 0},
		{5, "3", 3, 3},
		{5, "4", 4, 4},
		{2, "1", 1, 1},
		{2, "1 1|1 1", 0, 0},
		{2, "0 1|1 0", 1, 1},
		{2, "1 1|1 0", 1, 1},
		{3, "1 1|1 1", 0, 2},
		{3, "1 2|1 1", 2, 0},
		{7, "0 1|1 0", 6, 1},
		{7, "0 1 0|0 0 1|1 0 0", 1, 1},
		{7, "0 0 1|0 1 0|1 0 0", 6, 1},
		{7, "2 0 0|0 3 0|0 0 5", 2, 2},
		{13, "1 2 3|4 5 6|7 8 10", 10, 8},
		// They are 0 though no element is.
		{7, "1 2|2 4", 0, 1},
		{11, "1 2 3|4 5 6|7 8 9", 0, 10},
		{3, "1 1 1|1 1 1|1 1 1", 0, 0},
		{5, "1 1 1 1|1 1 1 1|1 1 1 1|1 1 1 1", 0, 4},
		{3, "1 1 1 1|1 1 1 1|1 1 1 1|1 1 1 1", 0, 0},
		{2, "1 1 1 1|1 1 1 1|1 1 1 1|1 1 1 1", 0, 0},
		// In each row of the first four, one element is not 0.
		{11, "0 1 0 0|0 0 1 0|0 0 0 1|1 0 0 0", 10, 1},
		{11, "0 1 0 0|1 0 0 0|0 0 0 1|0 0 1 0", 1, 1},
		{11, "1 0 0 0|0 0 0 3|0 0 1 0|0 2 0 0", 5, 6},
		{11, "0 0 0 1|0 0 1 0|0 1 0 0|1 0 0 0", 1, 1},
		{11, "1 2 3 4|0 5 6 7|0 0 8 9|0 0 0 10", 4, 4},
		{13, "1 1 1 1|1 2 4 8|1 3 9 1|1 4 3 12", 12, 11},
		{13, "12 12 12 12|12 12 12 12|12 12 12 12|12 12 12 12", 0, 11},
	}
	for _, c := range known {
		if got := impl.DetOf(c.p, rows(c.m)); got != c.det {
			t.Errorf("DetOf(%d, %s) = %d, want %d", c.p, c.m, got, c.det)
		}
		if got := impl.PermanentOf(c.p, rows(c.m)); got != c.permanent {
			t.Errorf("PermanentOf(%d, %s) = %d, want %d", c.p, c.m, got, c.permanent)
		}
	}
}

func TestDeterminantsAndPermanents(t *testing.T) {
	eachSquare(94, func(d *draw, p int, m impl.Matrix) {
		det, permanent := impl.DetOf(p, m), impl.PermanentOf(p, m)
		if want := remainder(p, expandedBy(-1, m)); det != want {
			t.Errorf("DetOf(%d, %v) = %d, want %d", p, m, det, want)
		}
		if want := remainder(p, expandedBy(1, m)); permanent != want {
			t.Errorf("PermanentOf(%d, %v) = %d, want %d", p, m, permanent, want)
		}
		if p == 2 && det != permanent {
			t.Errorf("over 2, the determinant of %v is %d and the permanent %d", m, det, permanent)
		}
		turned, _ := impl.TurnMatrix(p, m)
		if a, b := impl.DetOf(p, turned), impl.PermanentOf(p, turned); a != det || b != permanent {
			t.Errorf("%v turned has the determinant %d and the permanent %d, not %d and %d", m, a, b, det, permanent)
		}
		if i, k := d.below(len(m)), d.below(len(m)); i != k {
			swapped := copyOf(m)
			swapped[i], swapped[k] = swapped[k], swapped[i]
			if a, b := impl.DetOf(p, swapped), impl.PermanentOf(p, swapped); a != (p-det)%p || b != permanent {
				t.Errorf("%v swapped has the determinant %d and the permanent %d, where they were %d and %d", m, a, b, det, permanent)
			}
		}
	})
}

func TestDeterminantsMultiply(t *testing.T) {
	multiply := func(p int, a impl.Matrix, b impl.Matrix) {
		got := impl.DetOf(p, multiplied(t, p, a, b))
		if want := impl.DetOf(p, a) * impl.DetOf(p, b) % p; got != want {
			t.Errorf("over %d, the determinant of %v times %v is %d, want %d", p, a, b, got, want)
		}
	}
	eachSquare(95, func(d *draw, p int, m impl.Matrix) {
		multiply(p, m, m)
		for range 3 {
			multiply(p, m, d.matrix(p, len(m), len(m), 9))
			multiply(p, d.matrix(p, len(m), len(m), 3), m)
		}
	})
	for _, p := range []int{2, 3} {
		allSquares(p, 2, func(a impl.Matrix) {
			allSquares(p, 2, func(b impl.Matrix) { multiply(p, a, b) })
		})
	}
	for _, p := range primes {
		for side := 1; side <= 4; side++ {
			if got := impl.DetOf(p, diagonal(1, side)); got != 1 {
				t.Errorf("DetOf(%d, %v) = %d", p, diagonal(1, side), got)
			}
		}
	}
	// Permanents do not.
	m := rows("1 1|1 1")
	if got := impl.PermanentOf(3, multiplied(t, 3, m, m)); got != 2 || impl.PermanentOf(3, m) != 2 {
		t.Errorf("the permanent of a product is %d", got)
	}
}

func TestKnownAdjugates(t *testing.T) {
	known := []struct {
		p           int
		m, adjugate string
	}{
		{5, "1 2|3 4", "4 3|2 1"},
		{5, "0", "1"},
		{5, "3", "1"},
		{13, "12", "1"},
		{2, "1 1|1 1", "1 1|1 1"},
		{2, "1 1|0 1", "1 1|0 1"},
		{5, "1 2|2 4", "4 3|3 1"},
		{5, "0 0|0 0", "0 0|0 0"},
		{5, "0 0|0 3", "3 0|0 0"},
		{13, "1 2 3|4 5 6|7 8 10", "2 4 10|2 2 6|10 6 10"},
		{11, "1 2 3|4 5 6|7 8 9", "8 6 8|6 10 6|8 6 8"},
		{7, "1 1 1|1 1 1|1 1 1", "0 0 0|0 0 0|0 0 0"},
		{7, "0 0 0|0 1 0|0 0 1", "1 0 0|0 0 0|0 0 0"},
		{7, "0 1 0|0 0 1|0 0 0", "0 0 1|0 0 0|0 0 0"},
		{11, "1 2 3 4|0 5 6 7|0 0 8 9|0 0 0 10", "4 5 3 1|0 3 6 9|0 0 6 10|0 0 0 7"},
		{5, "1 0 0 0|0 1 0 0|0 0 1 0|0 0 0 0", "0 0 0 0|0 0 0 0|0 0 0 0|0 0 0 1"},
		{5, "1 0 0 0|0 1 0 0|0 0 0 0|0 0 0 0", "0 0 0 0|0 0 0 0|0 0 0 0|0 0 0 0"},
	}
	for _, c := range known {
		got, ok := impl.AdjugateOf(c.p, rows(c.m))
		expectMatrix(t, "AdjugateOf "+c.m, got, ok, rows(c.adjugate))
	}
}

// expectAdjugate checks the adjugate of a matrix, and that what it makes of the
// matrix, from both sides, is the determinant.
func expectAdjugate(t *testing.T, p int, m impl.Matrix) {
	t.Helper()
	adjugate, ok := impl.AdjugateOf(p, m)
	expectMatrix(t, "AdjugateOf", adjugate, ok, over(p, adjugateRows(m)))
	want := diagonal(impl.DetOf(p, m), len(m))
	expectMatrix(t, "a matrix times its adjugate", multiplied(t, p, m, adjugate), true, want)
	expectMatrix(t, "the adjugate times its matrix", multiplied(t, p, adjugate, m), true, want)
}

func TestAdjugateMakesTheDeterminant(t *testing.T) {
	singular := 0
	eachSquare(96, func(d *draw, p int, m impl.Matrix) {
		expectAdjugate(t, p, m)
		if impl.DetOf(p, m) == 0 {
			singular++
		}
		// The adjugate of a product is that of both, the last one first.
		other := d.matrix(p, len(m), len(m), 9)
		last, ok := impl.AdjugateOf(p, multiplied(t, p, m, other))
		first, _ := impl.AdjugateOf(p, m)
		second, _ := impl.AdjugateOf(p, other)
		expectMatrix(t, "AdjugateOf a product", last, ok, multiplied(t, p, second, first))
	})
	if singular < 200 {
		t.Errorf("only %d determinants are 0", singular)
	}
}

// expectInverse checks the inverse of a matrix, which there is exactly if the
// determinant is not 0, and reports whether there is one.
func expectInverse(t *testing.T, p int, m impl.Matrix) bool {
	t.Helper()
	inverse, ok := impl.InverseOf(p, m)
	if remainder(p, expandedBy(-1, m)) == 0 {
		expectNoMatrix(t, "InverseOf", inverse, ok)
		return false
	}
	if !ok {
		t.Errorf("InverseOf(%d, %v) = %v, false", p, m, inverse)
		return true
	}
	ones := diagonal(1, len(m))
	expectMatrix(t, "a matrix times its inverse", multiplied(t, p, m, inverse), true, ones)
	expectMatrix(t, "the inverse times its matrix", multiplied(t, p, inverse, m), true, ones)
	again, ok := impl.InverseOf(p, inverse)
	expectMatrix(t, "InverseOf InverseOf", again, ok, m)
	return true
}

func TestInverseOf(t *testing.T) {
	known := []struct {
		p          int
		m, inverse string
	}{
		{5, "1 2|3 4", "3 1|4 2"},
		{5, "3", "2"},
		{2, "1", "1"},
		{2, "1 1|0 1", "1 1|0 1"},
		{2, "0 1|1 1", "1 1|1 0"},
		{7, "0 1 0|0 0 1|1 0 0", "0 0 1|1 0 0|0 1 0"},
		{13, "2 0 0 0|0 3 0 0|0 0 4 0|0 0 0 12", "7 0 0 0|0 9 0 0|0 0 10 0|0 0 0 12"},
	}
	for _, c := range known {
		got, ok := impl.InverseOf(c.p, rows(c.m))
		expectMatrix(t, "InverseOf "+c.m, got, ok, rows(c.inverse))
	}
	for _, text := range []string{"0", "1 2|2 4", "0 0|0 0", "1 2|0 0", "1 0|2 0", "3 1|3 1", "1 2 3|0 1 1|1 3 4", "0 0 0|1 2 3|3 1 1", "1 2 3 4|2 4 1 3|0 0 0 1|1 0 0 0"} {
		got, ok := impl.InverseOf(5, rows(text))
		expectNoMatrix(t, "InverseOf "+text, got, ok)
	}
	with, none := 0, 0
	eachSquare(97, func(d *draw, p int, m impl.Matrix) {
		if expectInverse(t, p, m) {
			with++
		} else {
			none++
		}
	})
	if with < 200 || none < 200 {
		t.Errorf("%d matrices have an inverse, and %d have none", with, none)
	}
}

// How many matrices have an inverse is known: the first row is not 0, and each
// next one is none of the sums of multiples of those before it.
func TestAllMatricesOfSmallFields(t *testing.T) {
	for _, c := range []struct{ p, side, ranked, inverses int }{
		{2, 1, 1, 1}, {3, 1, 2, 2}, {13, 1, 12, 12}, {2, 2, 15, 6}, {3, 2, 80, 48}, {5, 2, 624, 480}, {2, 3, 511, 168}, {3, 3, 19682, 11232},
	} {
		ranked, inverses := 0, 0
		allSquares(c.p, c.side, func(m impl.Matrix) {
			rank, det := impl.RankOf(c.p, m), impl.DetOf(c.p, m)
			_, ok := impl.InverseOf(c.p, m)
			if ok != (det != 0) || ok != (rank == c.side) || rank > c.side || rank < 0 {
				t.Errorf("over %d, %v has the determinant %d, the rank %d and an inverse: %v", c.p, m, det, rank, ok)
			}
			if ok {
				inverses++
			}
			if rank > 0 {
				ranked++
			}
		})
		if ranked != c.ranked || inverses != c.inverses {
			t.Errorf("over %d, of %d rows, %d have a rank that is not 0, and %d an inverse, want %d and %d", c.p, c.side, ranked, inverses, c.ranked, c.inverses)
		}
	}
}

func TestRankOf(t *testing.T) {
	known := []struct {
		p    int
		m    string
		rank int
	}{
		{5, "0", 0},
		{5, "3", 1},
		{5, "0 0", 0},
		{5, "0|0|0|0", 0},
		{5, "0 0 0 4", 1},
		{5, "0|0|0|4", 1},
		{5, "1 2|3 4", 2},
		{5, "1 2|2 4", 1},
		{3, "1 2|2 1", 1},
		{5, "1 2|1 2", 1},
		{5, "0 0|1 2", 1},
		{5, "0 1|0 2|3 0", 2},
		{5, "0 1|0 2|0 0", 1},
		{5, "1 2 3|2 4 1", 1},
		{5, "1 2 3|2 4 2", 2},
		{5, "0 0 1|0 1 0|1 0 0", 3},
		{5, "0 1 2|0 3 4|0 0 1", 2},
		{5, "1 2 3|4 0 1|0 2 4", 2},
		{2, "1 1 0|0 1 1|1 0 1", 2},
		{3, "1 1 0|0 1 1|1 0 1", 3},
		{5, "1 2|3 4|0 1|2 2", 2},
		{5, "1 2 3 4|0 0 0 1", 2},
		{5, "0 0 1 2|0 0 3 4|0 0 0 0|0 0 1 1", 2},
		{11, "0 0 0 1|0 0 1 0|0 1 0 0|1 0 0 0", 4},
		{11, "1 2 3 4|5 6 7 8|9 10 0 1|2 3 4 5", 2},
		{5, "1 1 1 1|1 1 1 1|1 1 1 1|1 1 1 1", 1},
		{5, "1 0 0 1|0 1 0 1|0 0 1 1|1 1 1 3", 3},
	}
	for _, c := range known {
		if got := impl.RankOf(c.p, rows(c.m)); got != c.rank {
			t.Errorf("RankOf(%d, %s) = %d, want %d", c.p, c.m, got, c.rank)
		}
	}
	d := draw(98)
	var seen [5]int
	for _, p := range primes {
		for shape := range 4 * 4 {
			for _, m := range d.matrices(p, 1+shape%4, 1+shape/4) {
				want := rankBySums(p, m)
				seen[want]++
				if got := impl.RankOf(p, m); got != want {
					t.Errorf("RankOf(%d, %v) = %d, want %d", p, m, got, want)
				}
				turned, _ := impl.TurnMatrix(p, m)
				if got := impl.RankOf(p, turned); got != want {
					t.Errorf("RankOf(%d, %v) = %d, want %d as turned", p, turned, got, want)
				}
			}
		}
	}
	if slices.Min(seen[:]) < 50 {
		t.Errorf("the ranks are drawn %v times", seen)
	}
}

func TestKnownCharacters(t *testing.T) {
	known := []struct {
		p         int
		m         string
		character string
	}{
		{5, "1 2|3 4", "x2+3"},
		{5, "0", "x"},
		{5, "3", "x+2"},
		{2, "1", "x+1"},
		{13, "12", "x+1"},
		{5, "0 0|0 0", "x2"},
		{5, "1 0|0 1", "x2+3x+1"},
		{2, "1 1|1 0", "x2+x+1"},
		{5, "0 1|0 0", "x2"},
		{5, "0 1|1 0", "x2+4"},
		{5, "0 4|1 0", "x2+1"},
		{7, "0 1 0|0 0 1|1 0 0", "x3+6"},
		{7, "1 1 1|1 1 1|1 1 1", "x3+4x2"},
		{3, "1 1 1|1 1 1|1 1 1", "x3"},
		{11, "2 0 0|0 3 0|0 0 4", "x3+2x2+4x+9"},
		{11, "0 0 0 7|1 0 0 6|0 1 0 5|0 0 1 4", "x4+7x3+6x2+5x+4"},
		{11, "0 0 0 0|0 0 0 0|0 0 0 0|0 0 0 0", "x4"},
		{2, "1 0 0 0|0 1 0 0|0 0 1 0|0 0 0 1", "x4+1"},
		{3, "1 0 0 0|0 1 0 0|0 0 1 0|0 0 0 1", "x4+2x3+2x+1"},
		{13, "1 5 9 12|0 2 8 7|0 0 3 6|0 0 0 4", "x4+3x3+9x2+2x+11"},
	}
	for _, c := range known {
		got, ok := impl.CharacterOf(c.p, rows(c.m))
		expectPoly(t, "CharacterOf "+c.m, got, ok, read(t, c.p, c.character))
	}
}

// valueOfMatrix returns the value of a polynomial where x is a matrix.
func valueOfMatrix(p int, f impl.Poly, m impl.Matrix) impl.Matrix {
	sum := full(0, len(m), len(m))
	for _, term := range f {
		power := diagonal(1, len(m))
		for range term.Powers[0] {
			power = over(p, product(power, m))
		}
		sum = over(p, plusTimes(sum, power, term.Times))
	}
	return sum
}

// plusTimes returns the sum of rows and multiples of others.
func plusTimes(a impl.Matrix, b impl.Matrix, times int) impl.Matrix {
	result := copyOf(a)
	for i := range b {
		for k := range b[i] {
			result[i][k] += times * b[i][k]
		}
	}
	return result
}

func TestCharacterOf(t *testing.T) {
	eachSquare(99, func(d *draw, p int, m impl.Matrix) {
		got, ok := impl.CharacterOf(p, m)
		expectPlain(t, "CharacterOf", p, got, ok, characterRows(m))
		for x := range p {
			want := impl.DetOf(p, over(p, plusTimes(diagonal(x, len(m)), m, -1)))
			if value := impl.EvalPoly(p, got, point{x, d.below(p), d.below(p)}); value != want {
				t.Errorf("over %d, CharacterOf %v is %v, whose value at %d is %d, want %d", p, m, got, x, value, want)
			}
		}
		// A matrix is a zero of its characteristic polynomial.
		expectMatrix(t, "the value at the matrix", valueOfMatrix(p, got, m), true, full(0, len(m), len(m)))
		turned, _ := impl.TurnMatrix(p, m)
		same, ok := impl.CharacterOf(p, turned)
		expectPoly(t, "CharacterOf TurnMatrix", same, ok, got)
		other := d.matrix(p, len(m), len(m), 9)
		first, _ := impl.CharacterOf(p, multiplied(t, p, m, other))
		second, ok := impl.CharacterOf(p, multiplied(t, p, other, m))
		expectPoly(t, "CharacterOf a product turned around", second, ok, first)
	})
}

// expectNoSquare checks the functions that ask for square matrices.
func expectNoSquare(t *testing.T, p int, m impl.Matrix) {
	t.Helper()
	if got := impl.DetOf(p, m); got != -1 {
		t.Errorf("DetOf(%d, %v) = %d, want -1", p, m, got)
	}
	if got := impl.PermanentOf(p, m); got != -1 {
		t.Errorf("PermanentOf(%d, %v) = %d, want -1", p, m, got)
	}
	got, ok := impl.InverseOf(p, m)
	expectNoMatrix(t, "InverseOf", got, ok)
	got, ok = impl.AdjugateOf(p, m)
	expectNoMatrix(t, "AdjugateOf", got, ok)
	f, ok := impl.CharacterOf(p, m)
	expectNone(t, "CharacterOf", f, ok)
}

// expectNothingOfMatrix checks all functions for rows that are no matrix.
func expectNothingOfMatrix(t *testing.T, p int, m impl.Matrix) {
	t.Helper()
	if impl.MatrixValid(p, m) {
		t.Errorf("MatrixValid(%d, %v) = true", p, m)
	}
	expectNoSquare(t, p, m)
	if got := impl.RankOf(p, m); got != -1 {
		t.Errorf("RankOf(%d, %v) = %d, want -1", p, m, got)
	}
	got, ok := impl.TurnMatrix(p, m)
	expectNoMatrix(t, "TurnMatrix", got, ok)
	for n := 1; n <= 5; n++ {
		for _, other := range []impl.Matrix{diagonal(1, n), full(0, n, 1), full(0, 1, n), m} {
			got, ok = impl.MulMatrix(p, m, other)
			expectNoMatrix(t, "MulMatrix", got, ok)
			got, ok = impl.MulMatrix(p, other, m)
			expectNoMatrix(t, "MulMatrix", got, ok)
		}
	}
	for row := -1; row < 3; row++ {
		for column := -1; column < 3; column++ {
			got, ok = impl.MinorOf(p, m, row, column)
			expectNoMatrix(t, "MinorOf", got, ok)
		}
	}
}

func TestNoMatrices(t *testing.T) {
	for _, p := range primes {
		for _, m := range noMatrices(p) {
			expectNothingOfMatrix(t, p, m)
		}
	}
	for _, p := range noPrimes {
		for _, m := range []impl.Matrix{nil, {}, full(0, 1, 1), full(1, 1, 1), diagonal(1, 2), rows("0 1|1 1"), diagonal(1, 3), full(0, 4, 4), full(1, 2, 3), make(impl.Matrix, 2), full(0, 5, 5)} {
			expectNothingOfMatrix(t, p, m)
		}
	}
}

func TestMatricesThatAreNotSquare(t *testing.T) {
	d := draw(100)
	for _, p := range primes {
		for shape := range 4 * 4 {
			if shape%4 == shape/4 {
				continue
			}
			for _, m := range d.matrices(p, 1+shape%4, 1+shape/4) {
				expectNoSquare(t, p, m)
			}
		}
	}
}

// spacious returns a copy whose rows have other numbers behind their length,
// and which has other rows behind its own.
func spacious(m impl.Matrix) impl.Matrix {
	result := copyOf(m)
	for i := range result {
		result[i] = append(result[i], -7, -7, -7)[:len(m[i])]
	}
	return append(result, []int{-7}, []int{-7})[:len(m)]
}

// whole returns all rows with all that is behind their length.
func whole(m impl.Matrix) impl.Matrix {
	result := slices.Clone(m[:cap(m)])
	for i, row := range result {
		result[i] = slices.Clone(row[:cap(row)])
	}
	return result
}

// overwrite changes rows and all that is behind their length.
func overwrite(m impl.Matrix) {
	for _, row := range m {
		for k := range row[:cap(row)] {
			row[:cap(row)][k] = -8
		}
	}
	for i := range m[:cap(m)] {
		m[:cap(m)][i] = []int{-8}
	}
}

// expectNewMatrix checks that a call returns rows that share no memory with each
// other or with those that it returns another time.
func expectNewMatrix(t *testing.T, name string, call func() (impl.Matrix, bool)) {
	t.Helper()
	result, ok := call()
	if !ok {
		t.Fatalf("%s returned false", name)
	}
	want := copyOf(result)
	for i := range result {
		longer := append(result[i], -9, -9, -9, -9)
		longer[0] = want[i][0]
	}
	if !sameRows(result, want) {
		t.Errorf("%s: a row grows into another one: %v", name, result)
	}
	for i := range result {
		for k := range result[i] {
			result[i][k] = -9
			want[i][k] = -9
			if !sameRows(result, want) {
				t.Fatalf("%s: rows share memory: %v", name, result)
			}
		}
	}
	first, _ := call()
	want = copyOf(first)
	second, _ := call()
	overwrite(first)
	third, _ := call()
	if !sameRows(second, want) || !sameRows(third, want) {
		t.Errorf("%s: another result changed: %v, %v", name, second, third)
	}
}

func TestMatricesShareNoMemory(t *testing.T) {
	m, one, ones, wide := spacious(rows("1 2|3 4")), spacious(rows("3")), spacious(diagonal(1, 2)), spacious(rows("0 1 2|3 4 0"))
	upper := spacious(rows("0 1 2 3|1 1 1 1|0 0 1 4|0 0 0 2"))
	shared := impl.Matrix{m[0], m[0]}
	calls := map[string]func() (impl.Matrix, bool){
		"OnesMatrix":            func() (impl.Matrix, bool) { return impl.OnesMatrix(5, 4) },
		"MulMatrix":             func() (impl.Matrix, bool) { return impl.MulMatrix(5, m, wide) },
		"MulMatrix by ones":     func() (impl.Matrix, bool) { return impl.MulMatrix(5, m, ones) },
		"MulMatrix of ones":     func() (impl.Matrix, bool) { return impl.MulMatrix(5, ones, m) },
		"MulMatrix with itself": func() (impl.Matrix, bool) { return impl.MulMatrix(5, upper, upper) },
		"MulMatrix of one":      func() (impl.Matrix, bool) { return impl.MulMatrix(5, one, one) },
		"TurnMatrix":            func() (impl.Matrix, bool) { return impl.TurnMatrix(5, wide) },
		"TurnMatrix of one":     func() (impl.Matrix, bool) { return impl.TurnMatrix(5, one) },
		"TurnMatrix of ones":    func() (impl.Matrix, bool) { return impl.TurnMatrix(5, ones) },
		"TurnMatrix of a row":   func() (impl.Matrix, bool) { return impl.TurnMatrix(5, wide[1:]) },
		"MinorOf":               func() (impl.Matrix, bool) { return impl.MinorOf(5, upper, 1, 2) },
		"MinorOf at the start":  func() (impl.Matrix, bool) { return impl.MinorOf(5, wide, 0, 0) },
		"MinorOf at the end":    func() (impl.Matrix, bool) { return impl.MinorOf(5, upper, 3, 3) },
		"AdjugateOf":            func() (impl.Matrix, bool) { return impl.AdjugateOf(5, upper) },
		"AdjugateOf one":        func() (impl.Matrix, bool) { return impl.AdjugateOf(5, one) },
		"InverseOf":             func() (impl.Matrix, bool) { return impl.InverseOf(5, upper) },
		"InverseOf one":         func() (impl.Matrix, bool) { return impl.InverseOf(5, one) },
		"InverseOf ones":        func() (impl.Matrix, bool) { return impl.InverseOf(5, ones) },
		"TurnMatrix of one row": func() (impl.Matrix, bool) { return impl.TurnMatrix(5, shared) },
	}
	arguments := []impl.Matrix{m, one, ones, wide, upper, shared}
	var before []impl.Matrix
	for _, argument := range arguments {
		before = append(before, whole(argument))
	}
	for name, call := range calls {
		expectNewMatrix(t, name, call)
	}
	for _, argument := range arguments {
		impl.MatrixValid(5, argument)
		impl.DetOf(5, argument)
		impl.PermanentOf(5, argument)
		impl.RankOf(5, argument)
	}
	expectNewPolys(t, "CharacterOf", func() (impl.Poly, bool) { return impl.CharacterOf(5, upper) })
	expectNewPolys(t, "CharacterOf one", func() (impl.Poly, bool) { return impl.CharacterOf(5, one) })
	for i, argument := range arguments {
		if !sameRows(whole(argument), before[i]) {
			t.Errorf("an argument has changed: %v, where it was %v", whole(argument), before[i])
		}
	}
}

// Rows of an argument may be the same memory.
func TestRowsThatAreTheSameMemory(t *testing.T) {
	row := []int{1, 2}
	m := impl.Matrix{row, row}
	if impl.DetOf(5, m) != 0 || impl.PermanentOf(5, m) != 4 || impl.RankOf(5, m) != 1 || row[0] != 1 || row[1] != 2 {
		t.Errorf("DetOf, PermanentOf and RankOf = %d, %d, %d, and the row is %v", impl.DetOf(5, m), impl.PermanentOf(5, m), impl.RankOf(5, m), row)
	}
	expectAdjugate(t, 5, m)
	got, ok := impl.TurnMatrix(5, m)
	expectMatrix(t, "TurnMatrix", got, ok, rows("1 1|2 2"))
	f, ok := impl.CharacterOf(5, m)
	expectPoly(t, "CharacterOf", f, ok, read(t, 5, "x2+2x"))
}

// Calls at the same time have the results that each one has alone.
func TestMatricesAtTheSameTime(t *testing.T) {
	shared := rows("1 2 3 4|0 1 2 3|4 4 1 1|2 0 2 0")
	d := draw(101)
	var calls sync.WaitGroup
	for n := range 40 {
		p := primes[n%len(primes)]
		m := d.matrix(p, 4, 4, 5)
		calls.Go(func() {
			for _, pair := range []struct {
				p int
				m impl.Matrix
			}{{p, m}, {5, shared}} {
				expectAdjugate(t, pair.p, pair.m)
				f, ok := impl.CharacterOf(pair.p, pair.m)
				expectPlain(t, "CharacterOf", pair.p, f, ok, characterRows(pair.m))
				if got, want := impl.RankOf(pair.p, pair.m), rankBySums(pair.p, pair.m); got != want {
					t.Errorf("RankOf(%d, %v) = %d, want %d", pair.p, pair.m, got, want)
				}
			}
		})
	}
	calls.Wait()
}
