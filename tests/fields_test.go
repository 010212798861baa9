package tests

import (
	"math"
	"slices"
	"testing"

	"loop.example/polycircuits/impl"
)

var primes = []int{2, 3, 5, 7, 11, 13}

var noPrimes = []int{math.MinInt, -13, -5, -2, -1, 0, 1, 4, 6, 8, 9, 10, 12, 14, 15, 16, 17, 19, 169, math.MaxInt}

// outsideOf returns numbers that are no elements of the field of p.
func outsideOf(p int) []int {
	return []int{math.MinInt, -p, -1, p, p + 1, 2 * p, math.MaxInt}
}

// remainder is what the tests hold Reduce against: the distance to the next
// lower multiple, found without a division of a negative number.
func remainder(p int, n int) int {
	if n >= 0 {
		return n - n/p*p
	}
	// -(n+1) is no overflow, also for the least int.
	return p - 1 - remainder(p, -(n+1))
}

// powerBySquares is a way to a power that takes few steps for great exponents
// and does not shorten them.
func powerBySquares(p int, a int, n int) int {
	result := 1 % p
	for square := a % p; n > 0; n /= 2 {
		if n%2 == 1 {
			result = result * square % p
		}
		square = square * square % p
	}
	return result
}

func TestPrimeValid(t *testing.T) {
	if impl.MaxPrime != 13 {
		t.Errorf("MaxPrime = %d", impl.MaxPrime)
	}
	for n := -200; n <= 400; n++ {
		if got, want := impl.PrimeValid(n), slices.Contains(primes, n); got != want {
			t.Errorf("PrimeValid(%d) = %v, want %v", n, got, want)
		}
	}
	for _, n := range noPrimes {
		if impl.PrimeValid(n) {
			t.Errorf("PrimeValid(%d) = true", n)
		}
	}
}

func TestReduce(t *testing.T) {
	for _, p := range primes {
		for n := -500; n <= 500; n++ {
			if got, want := impl.Reduce(p, n), remainder(p, n); got != want {
				t.Errorf("Reduce(%d, %d) = %d, want %d", p, n, got, want)
			}
		}
		for _, n := range []int{math.MinInt, math.MinInt + 1, math.MaxInt - 1, math.MaxInt} {
			if got, want := impl.Reduce(p, n), remainder(p, n); got != want {
				t.Errorf("Reduce(%d, %d) = %d, want %d", p, n, got, want)
			}
		}
	}
	known := [][3]int{{5, -1, 4}, {5, -5, 0}, {5, -6, 4}, {13, -27, 12}, {2, -3, 1}, {7, 49, 0}, {3, math.MinInt, 1}, {5, math.MaxInt, 2}}
	for _, k := range known {
		if got := impl.Reduce(k[0], k[1]); got != k[2] {
			t.Errorf("Reduce(%d, %d) = %d, want %d", k[0], k[1], got, k[2])
		}
	}
}

func TestSumsProductsAndMinus(t *testing.T) {
	for _, p := range primes {
		for a := range p {
			for b := range p {
				if got, want := impl.AddIn(p, a, b), (a+b)%p; got != want {
					t.Errorf("AddIn(%d, %d, %d) = %d, want %d", p, a, b, got, want)
				}
				if got, want := impl.MulIn(p, a, b), a*b%p; got != want {
					t.Errorf("MulIn(%d, %d, %d) = %d, want %d", p, a, b, got, want)
				}
			}
			if got, want := impl.MinusIn(p, a), (p-a)%p; got != want {
				t.Errorf("MinusIn(%d, %d) = %d, want %d", p, a, got, want)
			}
		}
	}
}

func TestInverseDivides(t *testing.T) {
	for _, p := range primes {
		if n, ok := impl.InverseIn(p, 0); n != 0 || ok {
			t.Errorf("InverseIn(%d, 0) = %d, %v", p, n, ok)
		}
		for a := 1; a < p; a++ {
			n, ok := impl.InverseIn(p, a)
			if !ok || n < 0 || n >= p || a*n%p != 1 {
				t.Errorf("InverseIn(%d, %d) = %d, %v", p, a, n, ok)
			}
			for b := range p {
				if got := impl.MulIn(p, impl.MulIn(p, b, a), n); got != b {
					t.Errorf("over %d, %d times %d divided by %d is %d", p, b, a, a, got)
				}
			}
		}
	}
	if n, ok := impl.InverseIn(5, 3); n != 2 || !ok {
		t.Errorf("InverseIn(5, 3) = %d, %v", n, ok)
	}
}

func TestPowers(t *testing.T) {
	great := []int{1000, 999999, 1 << 31, 1<<31 - 1, 1<<62 + 1, math.MaxInt - 12, math.MaxInt - 1, math.MaxInt}
	for _, p := range primes {
		for a := range p {
			want := 1
			for n := range 60 {
				if got := impl.PowerIn(p, a, n); got != want {
					t.Errorf("PowerIn(%d, %d, %d) = %d, want %d", p, a, n, got, want)
				}
				want = want * a % p
			}
			for _, n := range great {
				if got, want := impl.PowerIn(p, a, n), powerBySquares(p, a, n); got != want {
					t.Errorf("PowerIn(%d, %d, %d) = %d, want %d", p, a, n, got, want)
				}
			}
		}
		// Multiples of the number of elements but 0 are where a shortened exponent is 0.
		for n := p - 1; n < 10*p; n += p - 1 {
			if got := impl.PowerIn(p, 0, n); got != 0 {
				t.Errorf("PowerIn(%d, 0, %d) = %d, want 0", p, n, got)
			}
		}
		for _, n := range []int{-1, -2, 1 - p, math.MinInt} {
			if got := impl.PowerIn(p, 1, n); got != -1 {
				t.Errorf("PowerIn(%d, 1, %d) = %d, want -1", p, n, got)
			}
		}
	}
}

func TestOrders(t *testing.T) {
	for _, p := range primes {
		if got := impl.OrderIn(p, 0); got != -1 {
			t.Errorf("OrderIn(%d, 0) = %d, want -1", p, got)
		}
		for a := 1; a < p; a++ {
			want, power := 1, a
			for power != 1 {
				want, power = want+1, power*a%p
			}
			if got := impl.OrderIn(p, a); got != want {
				t.Errorf("OrderIn(%d, %d) = %d, want %d", p, a, got, want)
			}
		}
	}
	for _, k := range [][3]int{{2, 1, 1}, {5, 4, 2}, {7, 2, 3}, {11, 10, 2}, {13, 5, 4}, {13, 2, 12}} {
		if got := impl.OrderIn(k[0], k[1]); got != k[2] {
			t.Errorf("OrderIn(%d, %d) = %d, want %d", k[0], k[1], got, k[2])
		}
	}
}

// powersOf returns how many different powers an element has.
func powersOf(p int, a int) int {
	seen := map[int]bool{}
	for n := range 2 * p {
		seen[impl.PowerIn(p, a, n)] = true
	}
	return len(seen)
}

func TestGenerators(t *testing.T) {
	for p, want := range map[int]int{2: 1, 3: 2, 5: 2, 7: 3, 11: 2, 13: 2} {
		got := impl.GeneratorIn(p)
		if got != want {
			t.Errorf("GeneratorIn(%d) = %d, want %d", p, got, want)
		}
		if n := powersOf(p, got); n != p-1 {
			t.Errorf("the generator %d of %d has %d powers", got, p, n)
		}
		for n := range 2 * p {
			if impl.PowerIn(p, got, n) == 0 {
				t.Errorf("a power of the generator %d of %d is 0", got, p)
			}
		}
		for a := 1; a < got; a++ {
			if powersOf(p, a) == p-1 {
				t.Errorf("%d is a lesser generator of %d than %d", a, p, got)
			}
		}
	}
}

func TestRoots(t *testing.T) {
	exponents := []int{1, 2, 3, 4, 5, 6, 7, 10, 11, 12, 13, 24, 25, 1 << 40, math.MaxInt - 1, math.MaxInt}
	for _, p := range primes {
		for a := range p {
			for _, n := range exponents {
				var want []int
				for b := range p {
					if powerBySquares(p, b, n) == a {
						want = append(want, b)
					}
				}
				if got := impl.RootsIn(p, a, n); !slices.Equal(got, want) {
					t.Errorf("RootsIn(%d, %d, %d) = %v, want %v", p, a, n, got, want)
				}
			}
			for _, n := range []int{0, -1, -2, math.MinInt} {
				if got := impl.RootsIn(p, a, n); len(got) != 0 {
					t.Errorf("RootsIn(%d, %d, %d) = %v, want none", p, a, n, got)
				}
			}
		}
	}
	if got := impl.RootsIn(2, 0, math.MaxInt); !slices.Equal(got, []int{0}) {
		t.Errorf("RootsIn(2, 0, MaxInt) = %v", got)
	}
	if got := impl.RootsIn(13, 1, 3); !slices.Equal(got, []int{1, 3, 9}) {
		t.Errorf("RootsIn(13, 1, 3) = %v", got)
	}
}

func TestRootsShareNoMemory(t *testing.T) {
	first := impl.RootsIn(13, 1, 3)
	second := impl.RootsIn(13, 1, 3)
	for _, list := range [][]int{first, first[:cap(first)]} {
		for i := range list {
			list[i] = -7
		}
	}
	_ = append(first, -7)
	if third := impl.RootsIn(13, 1, 3); !slices.Equal(second, []int{1, 3, 9}) || !slices.Equal(third, second) {
		t.Errorf("another result changed: %v, %v", second, third)
	}
}

// expectInvalid checks all functions for a prime and an element of which one is none.
func expectInvalid(t *testing.T, p int, a int) {
	t.Helper()
	if got := impl.MinusIn(p, a); got != -1 {
		t.Errorf("MinusIn(%d, %d) = %d, want -1", p, a, got)
	}
	if n, ok := impl.InverseIn(p, a); n != 0 || ok {
		t.Errorf("InverseIn(%d, %d) = %d, %v, want 0, false", p, a, n, ok)
	}
	if got := impl.OrderIn(p, a); got != -1 {
		t.Errorf("OrderIn(%d, %d) = %d, want -1", p, a, got)
	}
	for _, n := range []int{-1, 0, 1, 2, math.MaxInt} {
		if got := impl.PowerIn(p, a, n); got != -1 {
			t.Errorf("PowerIn(%d, %d, %d) = %d, want -1", p, a, n, got)
		}
		if got := impl.RootsIn(p, a, n); len(got) != 0 {
			t.Errorf("RootsIn(%d, %d, %d) = %v, want none", p, a, n, got)
		}
	}
	for _, b := range []int{0, 1, a} {
		for _, pair := range [][2]int{{a, b}, {b, a}} {
			if got := impl.AddIn(p, pair[0], pair[1]); got != -1 {
				t.Errorf("AddIn(%d, %d, %d) = %d, want -1", p, pair[0], pair[1], got)
			}
			if got := impl.MulIn(p, pair[0], pair[1]); got != -1 {
				t.Errorf("MulIn(%d, %d, %d) = %d, want -1", p, pair[0], pair[1], got)
			}
		}
	}
}

func TestInvalidFields(t *testing.T) {
	for _, p := range noPrimes {
		for _, n := range []int{math.MinInt, -1, 0, 1, 2, math.MaxInt} {
			if got := impl.Reduce(p, n); got != -1 {
				t.Errorf("Reduce(%d, %d) = %d, want -1", p, n, got)
			}
		}
		for _, a := range []int{-1, 0, 1, 2, p} {
			expectInvalid(t, p, a)
		}
		if got := impl.GeneratorIn(p); got != -1 {
			t.Errorf("GeneratorIn(%d) = %d, want -1", p, got)
		}
	}
	for _, p := range primes {
		for _, a := range outsideOf(p) {
			expectInvalid(t, p, a)
		}
	}
}
