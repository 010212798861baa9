package impl

// MaxPrime is the greatest prime.
const MaxPrime = 13

// An element is a number of the field of a prime, which stands beside it so
// that every method returns an element of the same field.
type element struct {
	prime int
	value int
}

// PrimeValid reports whether a number is one of the primes.
func PrimeValid(p int) bool {
	switch p {
	case 2, 3, 5, 7, 11, MaxPrime:
		return true
	}
	return false
}

// areElements reports whether p is a prime and all numbers are elements of its field.
func areElements(p int, numbers ...int) bool {
	if !PrimeValid(p) {
		return false
	}
	for _, n := range numbers {
		if n < 0 || n >= p {
			return false
		}
	}
	return true
}

// plus returns the sum of two elements of one field.
func (a element) plus(b element) element {
	return element{a.prime, Reduce(a.prime, a.value+b.value)}
}

// times returns the product of two elements of one field.
func (a element) times(b element) element {
	return element{a.prime, Reduce(a.prime, a.value*b.value)}
}

// minus returns the element whose sum with a is 0.
func (a element) minus() element {
	return element{a.prime, Reduce(a.prime, -a.value)}
}

// inverse returns the element whose product with a is 1, if there is one.
func (a element) inverse() (element, bool) {
	for n := range a.prime {
		b := element{a.prime, n}
		if a.times(b).value == 1 {
			return b, true
		}
	}
	return element{}, false
}

// power returns the product of n factors a, for n from 0 on.
func (a element) power(n int) element {
	// From the exponent 1 on, powers repeat after prime-1 of them, also those
	// of 0, so a great exponent needs no more factors than a small one. What is
	// left of it must not be 0, because only the power 0 of the element 0 is 1.
	if period := a.prime - 1; n > period {
		n = n%period + period
	}
	product := element{a.prime, 1}
	for range n {
		product = product.times(a)
	}
	return product
}

// order returns the least exponent from 1 on whose power is 1, or -1.
func (a element) order() int {
	for n := range a.prime - 1 {
		if a.power(n+1).value == 1 {
			return n + 1
		}
	}
	return -1
}

// Reduce returns the element of the field that a number is.
func Reduce(p int, n int) int {
	if !PrimeValid(p) {
		return -1
	}
	return (n%p + p) % p
}

// AddIn returns the sum of two elements.
func AddIn(p int, a int, b int) int {
	if !areElements(p, a, b) {
		return -1
	}
	return element{p, a}.plus(element{p, b}).value
}

// MulIn returns the product of two elements.
func MulIn(p int, a int, b int) int {
	if !areElements(p, a, b) {
		return -1
	}
	return element{p, a}.times(element{p, b}).value
}

// MinusIn returns what added to an element is 0.
func MinusIn(p int, a int) int {
	if !areElements(p, a) {
		return -1
	}
	return element{p, a}.minus().value
}

// InverseIn returns what times an element is 1.
func InverseIn(p int, a int) (int, bool) {
	if !areElements(p, a) {
		return 0, false
	}
	b, ok := element{p, a}.inverse()
	return b.value, ok
}

// PowerIn returns a power of an element.
func PowerIn(p int, a int, n int) int {
	if !areElements(p, a) || n < 0 {
		return -1
	}
	return element{p, a}.power(n).value
}

// OrderIn returns the least power that is 1.
func OrderIn(p int, a int) int {
	if !areElements(p, a) {
		return -1
	}
	return element{p, a}.order()
}

// GeneratorIn returns the least element whose powers are all but 0.
func GeneratorIn(p int) int {
	if !PrimeValid(p) {
		return -1
	}
	for n := range p {
		if (element{p, n}).order() == p-1 {
			return n
		}
	}
	return -1
}

// RootsIn returns the elements whose power is an element.
func RootsIn(p int, a int, n int) []int {
	if !areElements(p, a) || n < 1 {
		return nil
	}
	var roots []int
	for b := range p {
		if (element{p, b}).power(n).value == a {
			roots = append(roots, b)
		}
	}
	return roots
}
