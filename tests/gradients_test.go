package tests

import (
	"math"
	"slices"
	"strconv"
	"strings"
	"sync"
	"testing"

	"loop.example/polycircuits/impl"
)

type places = [3]int

// A counting is the texts of gates, what gates count for, as texts of numbers,
// and the number of the gate of 1.
type counting struct {
	gates  []string
	counts map[int]string
	one    string
}

// countingOn returns one that begins with the gates of a circuit.
func countingOn(p int, c impl.Circuit) *counting {
	return &counting{gates: strings.Split(impl.FormatCircuit(p, c), ";"), counts: map[int]string{}}
}

func (s *counting) put(gate string) string {
	s.gates = append(s.gates, gate)
	return strconv.Itoa(len(s.gates) - 1)
}

func (s *counting) added(what string, k string) string {
	if what == "" {
		return k
	}
	return s.put("+" + what + " " + k)
}

func (s *counting) product(k string, other int) string {
	if k == s.one {
		return strconv.Itoa(other)
	}
	return s.put("*" + k + " " + strconv.Itoa(other))
}

// gradientTexts returns the gates and the places of a gradient, also where the
// gates are too many.
func gradientTexts(p int, c impl.Circuit) ([]string, places) {
	s := countingOn(p, c)
	s.one = s.put("1")
	s.counts[len(c)-1] = s.one
	for i := len(c) - 1; i >= 0; i-- {
		k, g := s.counts[i], c[i]
		switch {
		case k == "":
		case g.Kind == impl.GateSum:
			s.counts[g.A] = s.added(s.counts[g.A], k)
			s.counts[g.B] = s.added(s.counts[g.B], k)
		case g.Kind == impl.GateProduct:
			first := s.product(k, g.B)
			s.counts[g.A] = s.added(s.counts[g.A], first)
			second := s.product(k, g.A)
			s.counts[g.B] = s.added(s.counts[g.B], second)
		}
	}
	var found [3]string
	for i, g := range c {
		if g.Kind == impl.GateInput && s.counts[i] != "" {
			found[g.A] = s.added(found[g.A], s.counts[i])
		}
	}
	return s.gates, places{placeOf(found[0]), placeOf(found[1]), placeOf(found[2])}
}

// placeOf returns the number in a text, and -1 for none.
func placeOf(s string) int {
	if s == "" {
		return -1
	}
	n, err := strconv.Atoi(s)
	if err != nil {
		panic(err)
	}
	return n
}

// forwardTexts returns all gates for a derivative by one unknown, and the place of the result.
func forwardTexts(p int, c impl.Circuit, v int) ([]string, int) {
	s := countingOn(p, c)
	for i, g := range c {
		switch g.Kind {
		case impl.GateInput:
			if g.A == v {
				if s.one == "" {
					s.one = s.put("1")
				}
				s.counts[i] = s.one
			}
		case impl.GateSum, impl.GateProduct:
			for _, pair := range [][2]int{{g.A, g.B}, {g.B, g.A}} {
				k := s.counts[pair[0]]
				if k == "" {
					continue
				}
				if g.Kind == impl.GateProduct {
					k = s.product(k, pair[1])
				}
				s.counts[i] = s.added(s.counts[i], k)
			}
		}
	}
	return s.gates, placeOf(s.counts[len(c)-1])
}

// slopeOf returns the derivative of a gate at a point as that of the whole tree above it.
func slopeOf(p int, c impl.Circuit, i int, v int, at point) int {
	switch g := c[i]; g.Kind {
	case impl.GateInput:
		if g.A == v {
			return 1
		}
	case impl.GateSum:
		return remainder(p, slopeOf(p, c, g.A, v, at)+slopeOf(p, c, g.B, v, at))
	case impl.GateProduct:
		first := slopeOf(p, c, g.A, v, at) * valueOf(p, c, g.B, at)
		return remainder(p, first+valueOf(p, c, g.A, at)*slopeOf(p, c, g.B, v, at))
	}
	return 0
}

func (d *draw) point(p int) point {
	return point{d.below(p), d.below(p), d.below(p)}
}

// gradientOf returns the gradient of a circuit, which must have one.
func gradientOf(t *testing.T, p int, c impl.Circuit) impl.Gradient {
	t.Helper()
	g, ok := impl.GradientOf(p, c)
	if !ok {
		t.Fatalf("GradientOf(%d, %v) = %v, false", p, c, g)
	}
	return g
}

// expectNoGradient checks a result that is none.
func expectNoGradient(t *testing.T, p int, c impl.Circuit) {
	t.Helper()
	if g, ok := impl.GradientOf(p, c); ok || len(g.Circuit) != 0 || g.Places != (places{}) {
		t.Errorf("GradientOf(%d, %v) = %v, %v, want the zero value and false", p, c, g, ok)
	}
}

// expectGradient checks a gradient gate for gate against texts, or that there is none if they are too many.
func expectGradient(t *testing.T, p int, c impl.Circuit) bool {
	t.Helper()
	texts, at := gradientTexts(p, c)
	if len(texts) > 5*len(c) {
		t.Errorf("the gradient of %v has %d gates", c, len(texts))
	}
	if len(texts) > 60 {
		expectNoGradient(t, p, c)
		return false
	}
	g, ok := impl.GradientOf(p, c)
	if want := strings.Join(texts, ";"); !ok || impl.FormatCircuit(p, g.Circuit) != want || g.Places != at {
		t.Errorf("GradientOf(%d, %v) = %v, %v, want %s and %v", p, c, g, ok, want, at)
	}
	if !impl.GradientValid(p, g) {
		t.Errorf("GradientValid(%d, %v) = false", p, g)
	}
	return true
}

// expectForward checks a derivative by one unknown gate for gate against texts,
// or that there is none if those up to the result are too many.
func expectForward(t *testing.T, p int, c impl.Circuit, v int) bool {
	t.Helper()
	texts, end := forwardTexts(p, c, v)
	got, ok := impl.ForwardOf(p, c, v)
	return expectUpTo(t, "ForwardOf "+impl.FormatCircuit(p, c), p, got, ok, texts, end)
}

// expectUpTo checks a result that has the gates of texts up to a place, but is
// pruned; the element 0 for the place -1, and no gates if they are too many.
func expectUpTo(t *testing.T, name string, p int, got impl.Circuit, ok bool, texts []string, end int) bool {
	t.Helper()
	if end >= 60 {
		expectNoCircuit(t, name, got, ok)
		return false
	}
	want := impl.Circuit{constGate(0)}
	if end >= 0 {
		all := readCircuit(t, p, strings.Join(texts[:end+1], ";"))
		want, _ = impl.PruneCircuit(p, all)
	}
	expectCircuit(t, name, got, ok, want)
	return true
}

func TestGradientOf(t *testing.T) {
	known := []struct {
		c    string
		more string
		at   places
	}{
		// The last gate is an unknown or an element.
		{"x", ";1", places{1, -1, -1}},
		{"y", ";1", places{-1, 1, -1}},
		{"z", ";1", places{-1, -1, 1}},
		{"0", ";1", places{-1, -1, -1}},
		{"1", ";1", places{-1, -1, -1}},
		{"3;+0 0;*0 1", ";1;+1 0;+4 0", places{-1, -1, -1}},
		{"x;y;z;2", ";1", places{-1, -1, -1}},
		// The last gate is a sum or a product, also of a gate with itself.
		{"x;y;+0 1", ";1", places{3, 3, -1}},
		{"x;y;*0 1", ";1", places{1, 0, -1}},
		{"z;y;*0 1", ";1", places{-1, 0, 1}},
		{"x;+0 0", ";1;+2 2", places{3, -1, -1}},
		{"y;*0 0", ";1;+0 0", places{-1, 3, -1}},
		{"x;3;*0 1", ";1", places{1, -1, -1}},
		{"x;3;+1 0", ";1", places{3, -1, -1}},
		{"x;+0 0;+1 1", ";1;+3 3;+4 4", places{5, -1, -1}},
		{"x;*0 0;*1 1", ";1;+1 1;*4 0;*4 0;+5 6", places{7, -1, -1}},
		{"x;*0 0;+1 1", ";1;+3 3;*4 0;*4 0;+5 6", places{7, -1, -1}},
		{"x;+0 0;*1 1", ";1;+1 1;+4 4", places{5, -1, -1}},
		{"x;y;+0 1;*2 2", ";1;+2 2", places{5, 5, -1}},
		{"x;y;*0 1;*2 2", ";1;+2 2;*5 1;*5 0", places{6, 7, -1}},
		// A gate is used several times.
		{"x;y;*0 1;+2 0", ";1;+4 1", places{5, 0, -1}},
		{"x;y;*0 1;+0 2", ";1;+4 1", places{5, 0, -1}},
		{"x;*0 0;*0 1", ";1;*0 0;+1 4;*0 0;+5 6", places{7, -1, -1}},
		{"x;*0 0;*1 0", ";1;*0 0;+1 4;*0 0;+5 6", places{7, -1, -1}},
		{"x;y;z;+0 1;*3 2;*4 4;+5 3", ";1;+4 4;*8 2;+7 9;*8 3", places{10, 10, 11}},
		// Other gates of the element 1 are not the gate of 1.
		{"x;1;*0 1;*2 0", ";1;*0 1;+2 5;*0 0", places{6, -1, -1}},
		{"1;x;*0 1;*2 0", ";1;*0 1;+2 5;*0 0", places{7, -1, -1}},
		{"1;x;*1 0;*2 0", ";1;*0 0;*0 1;+2 6", places{5, -1, -1}},
		// Gates that count for nothing, and are not done.
		{"x;*0 0;y", ";1", places{-1, 3, -1}},
		{"x;y;+0 1;z", ";1", places{-1, -1, 4}},
		{"x;y;*0 0;*0 1;+1 1", ";1;+5 5", places{-1, 6, -1}},
		{"x;x;*0 0;*1 1", ";1;+1 1", places{5, -1, -1}},
		// An unknown has several gates.
		{"x;x;+0 1", ";1;+3 3", places{4, -1, -1}},
		{"x;x;*0 1", ";1;+1 0", places{4, -1, -1}},
		{"x;x;*1 0", ";1;+1 0", places{4, -1, -1}},
		{"x;x;x;+0 1;+3 2", ";1;+5 5;+6 5", places{7, -1, -1}},
		{"x;y;x;y;*0 1;*2 3;+4 5", ";1;+1 3;+0 2", places{8, 9, -1}},
		{"z;y;x;z;+0 1;*4 2;*5 3", ";1;*3 2;*3 4;+8 5", places{9, 8, 10}},
	}
	for _, k := range known {
		g, ok := impl.GradientOf(5, readCircuit(t, 5, k.c))
		if got := impl.FormatCircuit(5, g.Circuit); got != k.c+k.more || g.Places != k.at || !ok {
			t.Errorf("GradientOf(5, %s) = %s, %v, %v, want %s and %v", k.c, got, g.Places, ok, k.c+k.more, k.at)
		}
		expectGradient(t, 5, readCircuit(t, 5, k.c))
	}
}

// drawnCircuits returns circuits of many lengths, some with gates that nothing uses.
func (d *draw) drawnCircuits(p int, greatest int) []impl.Circuit {
	var list []impl.Circuit
	for range 150 {
		c := d.circuit(p, 1+d.below(greatest))
		if d.below(4) == 0 {
			place := d.below(len(c))
			c = withSpare(c, place, d.spareGate(p, place))
		}
		list = append(list, c)
	}
	return list
}

func TestGradientsOfDrawnCircuits(t *testing.T) {
	d := draw(61)
	for _, p := range primes {
		fit := 0
		for _, c := range d.drawnCircuits(p, 59) {
			if expectGradient(t, p, c) {
				fit++
			}
		}
		if fit < 30 || fit == 150 {
			t.Errorf("over the field of %d, %d of the circuits have a gradient", p, fit)
		}
	}
}

// All derivatives of a polynomial are those of a circuit for it.
func TestGradientsAreDerivatives(t *testing.T) {
	d := draw(62)
	for _, p := range primes {
		compared := 0
		for _, c := range d.drawnCircuits(p, 12) {
			f, isPoly := expanded(p, c, len(c)-1)
			g := gradientOf(t, p, c)
			polys, ok := impl.GradientPolys(p, g)
			for v := range 3 {
				forward, fits := impl.ForwardOf(p, c, v)
				if !fits {
					t.Fatalf("ForwardOf(%d, %v, %d) has too many gates", p, c, v)
				}
				if isPoly && ok {
					compared++
					expectPlain(t, "GradientPolys of GradientOf", p, polys[v], ok, derivedPlain(f, v))
				}
				if result, ok := impl.PolyOfCircuit(p, forward); isPoly && ok {
					expectPlain(t, "PolyOfCircuit of ForwardOf", p, result, ok, derivedPlain(f, v))
				}
			}
		}
		if compared < 200 {
			t.Errorf("over the field of %d, %d derivatives have been compared", p, compared)
		}
	}
}

// expectSlopes checks what all functions tell of the derivatives of a circuit at a point.
func expectSlopes(t *testing.T, p int, c impl.Circuit, at point, value int, slopes [3]int) {
	t.Helper()
	if g, ok := impl.GradientOf(p, c); ok {
		if got, ok := impl.GradientAt(p, g, at); got != slopes || !ok {
			t.Errorf("GradientAt(%d, %v, %v) = %v, %v, want %v", p, g, at, got, ok, slopes)
		}
	}
	for v, want := range slopes {
		if a, b := impl.ForwardAt(p, c, v, at); a != value || b != want {
			t.Errorf("ForwardAt(%d, %v, %d, %v) = %d, %d, want %d, %d", p, c, v, at, a, b, value, want)
		}
		if f, ok := impl.ForwardOf(p, c, v); ok {
			if values := impl.EvalGates(p, f, at); values[len(f)-1] != want {
				t.Errorf("the values of ForwardOf(%d, %v, %d) at %v are %v, want %d", p, c, v, at, values, want)
			}
		}
	}
}

func TestGradientsAtPoints(t *testing.T) {
	d := draw(63)
	for _, p := range primes {
		for _, c := range d.drawnCircuits(p, 16) {
			last := len(c) - 1
			for range 4 {
				at := d.point(p)
				want := [3]int{slopeOf(p, c, last, 0, at), slopeOf(p, c, last, 1, at), slopeOf(p, c, last, 2, at)}
				expectSlopes(t, p, c, at, valueOf(p, c, last, at), want)
			}
		}
		// The derivative of the power 2^n is 2^n times the power 2^n-1, and
		// that of 2^n times x is 2^n; there is no gradient of most of these.
		for _, n := range []int{1, 2, 3, 10, 15, 16, 40, 59} {
			for x := range p {
				at := point{x, p - 1, 0}
				twos := powerBySquares(p, 2, n)
				power := twos * powerBySquares(p, x, 1<<n-1) % p
				expectSlopes(t, p, chain(impl.GateProduct, n), at, powerBySquares(p, x, 1<<n), [3]int{power, 0, 0})
				expectSlopes(t, p, chain(impl.GateSum, n), at, twos*x%p, [3]int{twos, 0, 0})
			}
		}
	}
}

// The derivatives of a polynomial have the values that circuits tell of them.
func TestSlopesOfPolys(t *testing.T) {
	d := draw(64)
	for _, p := range primes {
		for range 60 {
			f := d.poly(p, 1+d.below(4), 1+d.below(5))
			c, ok := impl.CircuitOf(p, f)
			if !ok {
				continue
			}
			at := d.point(p)
			var want [3]int
			for v := range 3 {
				want[v] = derivedPlain(f, v).at(p, at)
			}
			expectSlopes(t, p, c, at, plainOf(f).at(p, at), want)
		}
	}
}

// Gates that nothing uses change no derivative.
func TestSpareGatesChangeNoDerivative(t *testing.T) {
	d := draw(65)
	for _, p := range primes {
		for range 30 {
			c := d.circuit(p, 1+d.below(10))
			place := d.below(len(c))
			spare := withSpare(c, place, d.spareGate(p, place))
			spare = withSpare(spare, place, unknownGate(d.below(3)))
			first, isFirst := impl.GradientPolys(p, gradientOf(t, p, c))
			second, isSecond := impl.GradientPolys(p, gradientOf(t, p, spare))
			for v := range 3 {
				if isFirst != isSecond || !slices.Equal(first[v], second[v]) {
					t.Errorf("the derivatives of %v are %v, %v, and those of %v %v, %v", c, first, isFirst, spare, second, isSecond)
				}
			}
		}
	}
}

// more returns a circuit with as many further gates that nothing uses.
func more(c impl.Circuit, n int) impl.Circuit {
	for range n {
		c = withSpare(c, 0, constGate(1))
	}
	return c
}

// sumOfUnknowns returns the sum of as many gates of one unknown.
func sumOfUnknowns(v int, n int) impl.Circuit {
	c := slices.Repeat(impl.Circuit{unknownGate(v)}, n)
	for i := range n - 1 {
		last := len(c) - 1
		if i == 0 {
			last = 0
		}
		c = append(c, sumGate(last, i+1))
	}
	return c
}

func TestGradientsWith60Gates(t *testing.T) {
	limits := []struct {
		c    impl.Circuit
		size int
	}{
		{make(impl.Circuit, 58), 59}, {make(impl.Circuit, 59), 60}, {make(impl.Circuit, 60), 61},
		{slices.Repeat(impl.Circuit{constGate(1)}, 59), 60}, {slices.Repeat(impl.Circuit{constGate(1)}, 60), 61},
		{chain(impl.GateSum, 29), 60}, {more(chain(impl.GateSum, 29), 1), 61}, {chain(impl.GateSum, 30), 62},
		{chain(impl.GateProduct, 15), 60}, {more(chain(impl.GateProduct, 15), 1), 61}, {chain(impl.GateProduct, 16), 64},
		{chain(impl.GateProduct, 59), 236}, {append(chain(impl.GateProduct, 57), unknownGate(1)), 60}, {append(chain(impl.GateProduct, 58), unknownGate(1)), 61},
		// The last gates are sums of what several gates of an unknown count for.
		{sumOfUnknowns(0, 20), 59}, {more(sumOfUnknowns(1, 20), 1), 60}, {more(sumOfUnknowns(2, 20), 2), 61}, {sumOfUnknowns(0, 21), 62},
	}
	for _, p := range primes {
		for _, k := range limits {
			texts, _ := gradientTexts(p, k.c)
			if len(texts) != k.size {
				t.Fatalf("the gradient of %v has %d gates, not %d", k.c, len(texts), k.size)
			}
			if fits := expectGradient(t, p, k.c); fits != (k.size <= 60) {
				t.Errorf("GradientOf(%d, %v) is tested as %v", p, k.c, fits)
			}
		}
	}
}

func TestGradientValid(t *testing.T) {
	valid := func(p int, c impl.Circuit, at places) bool {
		return impl.GradientValid(p, impl.Gradient{Circuit: c, Places: at})
	}
	for _, p := range primes {
		for _, c := range []impl.Circuit{{{}}, {constGate(p - 1)}, {unknownGate(0), sumGate(0, 0), unknownGate(2)}, chain(impl.GateProduct, 59)} {
			for v := range 3 {
				for place := -1; place < len(c); place++ {
					at := places{-1, len(c) - 1, 0}
					at[v] = place
					if !valid(p, c, at) {
						t.Errorf("GradientValid(%d, %v, %v) = false", p, c, at)
					}
				}
				for _, place := range []int{math.MinInt, -60, -2, len(c), len(c) + 1, 60, 61, math.MaxInt} {
					at := places{-1, len(c) - 1, 0}
					at[v] = place
					expectNothingOfGradient(t, p, impl.Gradient{Circuit: c, Places: at})
				}
			}
		}
		for _, c := range noCircuits(p) {
			for _, at := range []places{{}, {-1, -1, -1}, {0, -1, 0}} {
				expectNothingOfGradient(t, p, impl.Gradient{Circuit: c, Places: at})
			}
		}
	}
	for _, p := range noPrimes {
		for _, c := range []impl.Circuit{nil, {{}}, {constGate(0)}, {unknownGate(1), sumGate(0, 0)}} {
			for _, at := range []places{{}, {-1, -1, -1}} {
				expectNothingOfGradient(t, p, impl.Gradient{Circuit: c, Places: at})
			}
		}
	}
}

// expectNothingOfGradient checks all functions for what is no gradient over the field of p.
func expectNothingOfGradient(t *testing.T, p int, g impl.Gradient) {
	t.Helper()
	if impl.GradientValid(p, g) {
		t.Errorf("GradientValid(%d, %v) = true", p, g)
	}
	expectNoPolys(t, p, g)
	for _, at := range []point{{0, 0, 0}, {1, 1, 1}} {
		if got, ok := impl.GradientAt(p, g, at); got != [3]int{} || ok {
			t.Errorf("GradientAt(%d, %v, %v) = %v, %v, want zeros and false", p, g, at, got, ok)
		}
	}
}

// expectNoPolys checks that a gradient has no polynomials.
func expectNoPolys(t *testing.T, p int, g impl.Gradient) {
	t.Helper()
	f, ok := impl.GradientPolys(p, g)
	if ok || len(f[0]) != 0 || len(f[1]) != 0 || len(f[2]) != 0 {
		t.Errorf("GradientPolys(%d, %v) = %v, %v, want no terms and false", p, g, f, ok)
	}
}

func TestGradientPolys(t *testing.T) {
	known := []struct {
		p    int
		c    string
		at   places
		want [3]string
	}{
		{5, "x;y;*0 1;+2 0;1;+4 1", places{5, 0, -1}, [3]string{"y+1", "x", "0"}},
		{5, "x", places{-1, -1, -1}, [3]string{"0", "0", "0"}},
		{5, "x", places{0, 0, 0}, [3]string{"x", "x", "x"}},
		{5, "3", places{-1, 0, -1}, [3]string{"0", "3", "0"}},
		{5, "0;x", places{0, 1, -1}, [3]string{"0", "x", "0"}},
		{2, "z;+0 0;*0 0", places{2, 1, 0}, [3]string{"z2", "0", "z"}},
		{13, "x;y;+0 1;*2 2;*3 2", places{4, 3, 2}, [3]string{"x3+3x2y+3xy2+y3", "x2+2xy+y2", "x+y"}},
		// Gates without a polynomial are behind the places, or not used.
		{5, "x;*0 0;*1 1;*2 2;*3 3;*4 4", places{3, 2, 1}, [3]string{"x8", "x4", "x2"}},
		{5, "x;*0 0;*1 1;*2 2;*3 3;y", places{5, 3, -1}, [3]string{"y", "x8", "0"}},
	}
	for _, k := range known {
		g := impl.Gradient{Circuit: readCircuit(t, k.p, k.c), Places: k.at}
		f, ok := impl.GradientPolys(k.p, g)
		for v := range 3 {
			expectPoly(t, "GradientPolys "+k.c, f[v], ok, read(t, k.p, k.want[v]))
		}
	}
	d := draw(66)
	none := 0
	for _, p := range primes {
		for range 100 {
			c := d.circuit(p, 1+d.below(20))
			g := impl.Gradient{Circuit: c}
			var want [3]impl.Poly
			all := true
			for v := range 3 {
				g.Places[v] = d.below(len(c)+1) - 1
				if g.Places[v] >= 0 {
					f, ok := expanded(p, c, g.Places[v])
					want[v], all = f, all && ok
				}
			}
			if !all {
				none++
				expectNoPolys(t, p, g)
				continue
			}
			f, ok := impl.GradientPolys(p, g)
			for v := range 3 {
				expectPoly(t, "GradientPolys", f[v], ok, want[v])
			}
		}
	}
	if none == 0 || none > 400 {
		t.Errorf("%d of the gradients have no polynomials", none)
	}
}

// If one of three results has no polynomial, none of them is returned.
func TestGradientsWithoutPoly(t *testing.T) {
	const great = "x;*0 0;*1 1;*2 2;*1 3" // x10
	for _, p := range primes {
		for v := range 3 {
			for _, at := range []places{{-1, -1, -1}, {0, 0, 0}, {0, 1, 2}} {
				at[v] = 4
				expectNoPolys(t, p, impl.Gradient{Circuit: readCircuit(t, p, great), Places: at})
				// What is 0 times it has none either.
				at[v] = 6
				expectNoPolys(t, p, impl.Gradient{Circuit: readCircuit(t, p, great+";0;*4 5"), Places: at})
			}
		}
		// The derivative of x16 has too great exponents, unless it is made of
		// 2x8, which is 0 over the field of 2.
		g := gradientOf(t, p, chain(impl.GateProduct, 4))
		if f, ok := impl.GradientPolys(p, g); p == 2 {
			expectPoly(t, "GradientPolys of x16", f[0], ok, nil)
		} else {
			expectNoPolys(t, p, g)
		}
		// That of x10 has none, and its derivative 10x9 has one.
		c := readCircuit(t, p, "x;*0 0;*1 1;*2 2;*3 0;*4 0")
		if _, ok := impl.PolyOfCircuit(p, c); ok {
			t.Fatalf("PolyOfCircuit(%d, %v) is within the limits", p, c)
		}
		f, ok := impl.GradientPolys(p, gradientOf(t, p, c))
		expectPlain(t, "GradientPolys of x10", p, f[0], ok, plain{powers{9, 0, 0}: 10})
		expectPoly(t, "GradientPolys of x10 by y", f[1], ok, nil)
	}
}

func TestGradientAt(t *testing.T) {
	known := []struct {
		p    int
		c    string
		of   places
		at   point
		want [3]int
	}{
		{5, "x;y;*0 1;+2 0;1;+4 1", places{5, 0, -1}, point{3, 4, 1}, [3]int{0, 3, 0}},
		{5, "x;y;*0 1;+2 0;1;+4 1", places{5, 0, -1}, point{4, 2, 0}, [3]int{3, 4, 0}},
		{7, "6", places{0, -1, 0}, point{1, 2, 3}, [3]int{6, 0, 6}},
		{7, "z;y;x", places{0, 1, 2}, point{1, 2, 3}, [3]int{3, 2, 1}},
		{13, "x;*0 0;*1 1;*2 2;*3 3", places{4, 3, 2}, point{2, 0, 0}, [3]int{3, 9, 3}},
	}
	for _, k := range known {
		g := impl.Gradient{Circuit: readCircuit(t, k.p, k.c), Places: k.of}
		if got, ok := impl.GradientAt(k.p, g, k.at); got != k.want || !ok {
			t.Errorf("GradientAt(%d, %s, %v) = %v, %v, want %v", k.p, k.c, k.at, got, ok, k.want)
		}
	}
	d := draw(67)
	for _, p := range primes {
		for range 100 {
			g := impl.Gradient{Circuit: d.circuit(p, 1+d.below(14))}
			at := d.point(p)
			var want [3]int
			for v := range 3 {
				g.Places[v] = d.below(len(g.Circuit)+1) - 1
				if g.Places[v] >= 0 {
					want[v] = valueOf(p, g.Circuit, g.Places[v], at)
				}
			}
			if got, ok := impl.GradientAt(p, g, at); got != want || !ok {
				t.Errorf("GradientAt(%d, %v, %v) = %v, %v, want %v", p, g, at, got, ok, want)
			}
		}
	}
}

func TestForwardOf(t *testing.T) {
	known := []struct {
		c    string
		want [3]string
	}{
		{"x", [3]string{"1", "0", "0"}},
		{"y", [3]string{"0", "1", "0"}},
		{"z", [3]string{"0", "0", "1"}},
		{"4", [3]string{"0", "0", "0"}},
		{"x;y;z;4", [3]string{"0", "0", "0"}},
		{"x;y;z", [3]string{"0", "0", "1"}},
		{"x;y;+0 1", [3]string{"1", "1", "0"}},
		{"x;+0 0", [3]string{"1;+0 0", "0", "0"}},
		{"x;*0 0", [3]string{"x;+0 0", "0", "0"}},
		{"x;y;*0 1", [3]string{"y", "x", "0"}},
		{"x;3;*0 1", [3]string{"3", "0", "0"}},
		{"x;3;+1 0", [3]string{"1", "0", "0"}},
		{"x;y;*0 1;+2 0", [3]string{"y;1;+0 1", "x", "0"}},
		{"x;y;*0 1;+0 2", [3]string{"y;1;+1 0", "x", "0"}},
		{"x;*0 0;*0 1", [3]string{"x;*0 0;+0 0;*2 0;+1 3", "0", "0"}},
		{"x;*0 0;*1 0", [3]string{"x;*0 0;+0 0;*2 0;+3 1", "0", "0"}},
		{"x;y;*0 1;*2 2", [3]string{"x;y;*0 1;*1 2;*1 2;+3 4", "x;y;*0 1;*0 2;*0 2;+3 4", "0"}},
		// Several gates of an unknown count for one gate.
		{"x;x;+0 1", [3]string{"1;+0 0", "0", "0"}},
		{"x;x;*0 1", [3]string{"x;x;+1 0", "0", "0"}},
		{"x;y;x;+0 1;+3 2", [3]string{"1;+0 0", "1", "0"}},
		{"y;y;x;*1 2", [3]string{"y", "x", "0"}},
		// Other gates of the element 1 are not the gate of 1.
		{"1;x;*0 1;*2 0", [3]string{"1;*0 0", "0", "0"}},
		{"x;1;*0 1;*2 0", [3]string{"x;1;*0 1;*1 0;+3 2", "0", "0"}},
		{"1;x;*0 1", [3]string{"1", "0", "0"}},
	}
	for _, k := range known {
		for v, want := range k.want {
			got, ok := impl.ForwardOf(5, readCircuit(t, 5, k.c), v)
			if impl.FormatCircuit(5, got) != want || !ok {
				t.Errorf("ForwardOf(5, %s, %d) = %s, %v, want %s", k.c, v, impl.FormatCircuit(5, got), ok, want)
			}
			expectForward(t, 5, readCircuit(t, 5, k.c), v)
		}
	}
	d := draw(68)
	for _, p := range primes {
		fit := 0
		for _, c := range d.drawnCircuits(p, 59) {
			for v := range 3 {
				if expectForward(t, p, c, v) {
					fit++
				}
			}
		}
		if fit < 100 || fit == 450 {
			t.Errorf("over the field of %d, %d of the derivatives have circuits", p, fit)
		}
	}
}

// doubled returns a circuit whose derivative by x is the gate of 1, doubled n
// times, with further gates that are not used and count for three gates each,
// if last is put behind them.
func doubled(n int, spare int, last bool) impl.Circuit {
	c := chain(impl.GateSum, n)
	for range spare {
		c = append(c, productGate(0, n))
	}
	if last {
		c = append(c, constGate(1), sumGate(n, n+spare+1))
	}
	return c
}

func TestForwardWith60Gates(t *testing.T) {
	limits := []struct {
		c   impl.Circuit
		v   int
		end int
	}{
		{make(impl.Circuit, 58), 0, 58}, {make(impl.Circuit, 59), 0, 59}, {make(impl.Circuit, 60), 0, 60},
		// The result is one of the gates of the circuit, or nothing.
		{make(impl.Circuit, 60), 1, -1}, {slices.Repeat(impl.Circuit{constGate(1)}, 60), 0, -1}, {chain(impl.GateProduct, 59), 2, -1},
		{append(make(impl.Circuit, 58), unknownGate(1), productGate(57, 58)), 0, 58}, {append(make(impl.Circuit, 58), unknownGate(1), productGate(57, 58)), 1, 57},
		{chain(impl.GateSum, 29), 0, 59}, {more(chain(impl.GateSum, 29), 1), 0, 60}, {chain(impl.GateSum, 30), 0, 61}, {chain(impl.GateSum, 59), 0, 119},
		{chain(impl.GateProduct, 15), 0, 59}, {more(chain(impl.GateProduct, 15), 1), 0, 60}, {chain(impl.GateProduct, 59), 0, 235},
		// Gates behind the result do not count, however many they are.
		{doubled(25, 6, true), 0, 59}, {doubled(25, 7, true), 0, 60}, {doubled(10, 36, true), 0, 59}, {doubled(10, 37, true), 0, 60}, {doubled(1, 50, true), 0, 55},
		{append(chain(impl.GateProduct, 57), constGate(1), sumGate(0, 58)), 0, 60}, {append(chain(impl.GateProduct, 56), constGate(1), sumGate(0, 57)), 0, 59},
	}
	for _, p := range primes {
		for _, k := range limits {
			if !impl.CircuitValid(p, k.c) {
				t.Fatalf("%d gates are no circuit: %v", len(k.c), k.c)
			}
			if _, end := forwardTexts(p, k.c, k.v); end != k.end {
				t.Fatalf("the derivative of %v by %d is the gate %d, not %d", k.c, k.v, end, k.end)
			}
			if fits := expectForward(t, p, k.c, k.v); fits != (k.end < 60) {
				t.Errorf("ForwardOf(%d, %v, %d) is tested as %v", p, k.c, k.v, fits)
			}
		}
		got, ok := impl.ForwardOf(p, make(impl.Circuit, 60), 2)
		expectCircuit(t, "ForwardOf 60 gates by another unknown", got, ok, impl.Circuit{constGate(0)})
	}
}

func TestForwardAt(t *testing.T) {
	known := []struct {
		p            int
		c            string
		v            int
		at           point
		value, slope int
	}{
		{5, "x;*0 0", 0, point{3, 0, 0}, 4, 1},
		{5, "x;*0 0", 1, point{3, 1, 1}, 4, 0},
		{5, "x", 0, point{2, 3, 4}, 2, 1},
		{5, "y", 0, point{2, 3, 4}, 3, 0},
		{5, "z", 2, point{2, 3, 4}, 4, 1},
		{13, "12", 0, point{2, 3, 4}, 12, 0},
		{5, "x;y;*0 1;+2 0", 0, point{3, 4, 0}, 0, 0},
		{5, "x;y;*0 1;+2 0", 1, point{3, 4, 0}, 0, 3},
		{2, "x;*0 0", 0, point{1, 0, 0}, 1, 0},
		{3, "x;*0 0;*0 1", 0, point{2, 0, 0}, 2, 0},
		{7, "x;y;+0 1;*2 2;z", 0, point{1, 2, 3}, 3, 0},
		{7, "x;x;y;*0 1;*3 2", 0, point{3, 3, 5}, 6, 4},
	}
	for _, k := range known {
		if a, b := impl.ForwardAt(k.p, readCircuit(t, k.p, k.c), k.v, k.at); a != k.value || b != k.slope {
			t.Errorf("ForwardAt(%d, %s, %d, %v) = %d, %d, want %d, %d", k.p, k.c, k.v, k.at, a, b, k.value, k.slope)
		}
	}
}

// expectNoSlope checks that a derivative at a point is none.
func expectNoSlope(t *testing.T, p int, c impl.Circuit, v int, at point) {
	t.Helper()
	if a, b := impl.ForwardAt(p, c, v, at); a != -1 || b != -1 {
		t.Errorf("ForwardAt(%d, %v, %d, %v) = %d, %d, want -1, -1", p, c, v, at, a, b)
	}
}

func TestDerivativesOfNoCircuits(t *testing.T) {
	expectNothing := func(p int, c impl.Circuit) {
		t.Helper()
		expectNoGradient(t, p, c)
		for v := range 3 {
			got, ok := impl.ForwardOf(p, c, v)
			expectNoCircuit(t, "ForwardOf", got, ok)
			expectNoSlope(t, p, c, v, point{})
			expectNoSlope(t, p, c, v, point{1, 1, 1})
		}
	}
	for _, p := range primes {
		for _, c := range noCircuits(p) {
			expectNothing(p, c)
		}
	}
	for _, p := range noPrimes {
		for _, c := range []impl.Circuit{nil, {{}}, {constGate(0)}, {constGate(1)}, {unknownGate(0), productGate(0, 0)}} {
			expectNothing(p, c)
		}
	}
}

func TestDerivativesByNoUnknownsAndAtNoPoints(t *testing.T) {
	for _, p := range primes {
		for _, c := range []impl.Circuit{{{}}, {constGate(0)}, {unknownGate(2)}, {unknownGate(0), productGate(0, 0)}, chain(impl.GateProduct, 59)} {
			for _, v := range noUnknowns {
				got, ok := impl.ForwardOf(p, c, v)
				expectNoCircuit(t, "ForwardOf by no unknown", got, ok)
				expectNoSlope(t, p, c, v, point{})
				expectNoSlope(t, p, c, v, point{p, p, p})
			}
			for _, n := range outsideOf(p) {
				for v := range 3 {
					var at point
					at[v] = n
					for unknown := range 3 {
						expectNoSlope(t, p, c, unknown, at)
					}
					for _, of := range []places{{-1, -1, -1}, {0, 0, 0}} {
						if got, ok := impl.GradientAt(p, impl.Gradient{Circuit: c, Places: of}, at); got != [3]int{} || ok {
							t.Errorf("GradientAt(%d, %v, %v) = %v, %v, want zeros and false", p, c, at, got, ok)
						}
					}
				}
			}
		}
	}
}

func TestGradientsShareNoMemory(t *testing.T) {
	junk := impl.Gate{Kind: -7, A: -7, B: -7}
	// There is room behind the gates, in which nothing may be put.
	full := append(readCircuit(t, 5, "x;y;*0 1;+2 0"), slices.Repeat(impl.Circuit{junk}, 20)...)
	c := full[:4]
	before := slices.Clone(full)
	calls := map[string]func() (impl.Circuit, bool){
		"GradientOf":      func() (impl.Circuit, bool) { g, ok := impl.GradientOf(5, c); return g.Circuit, ok },
		"ForwardOf":       func() (impl.Circuit, bool) { return impl.ForwardOf(5, c, 0) },
		"ForwardOf by y":  func() (impl.Circuit, bool) { return impl.ForwardOf(5, c, 1) },
		"ForwardOf by z":  func() (impl.Circuit, bool) { return impl.ForwardOf(5, c, 2) },
		"ForwardOf x":     func() (impl.Circuit, bool) { return impl.ForwardOf(5, c[:1], 0) },
		"GradientOf x, y": func() (impl.Circuit, bool) { g, ok := impl.GradientOf(5, c[:2]); return g.Circuit, ok },
	}
	for name, call := range calls {
		expectNewCircuits(t, name, call)
	}
	// Three results at the same place share none either.
	g := impl.Gradient{Circuit: c, Places: places{3, 3, 3}}
	f, ok := impl.GradientPolys(5, g)
	for v := range 3 {
		expectPoly(t, "GradientPolys", f[v], ok, read(t, 5, "xy+x"))
		for i := range f[v][:cap(f[v])] {
			f[v][:cap(f[v])][i] = impl.Term{Times: -8}
		}
	}
	impl.GradientAt(5, g, point{1, 2, 3})
	impl.GradientValid(5, g)
	impl.ForwardAt(5, c, 0, point{1, 2, 3})
	if !slices.Equal(full, before) || g.Places != (places{3, 3, 3}) {
		t.Errorf("an argument has changed: %v, %v", full, g.Places)
	}
}

// Calls at the same time have the results that each one has alone.
func TestGradientsAtTheSameTime(t *testing.T) {
	d := draw(69)
	shared := d.circuit(5, 20)
	var calls sync.WaitGroup
	for n := range 40 {
		p := primes[n%len(primes)]
		c := d.circuit(p, 1+d.below(40))
		calls.Go(func() {
			for _, of := range []impl.Circuit{c, c[:(len(c)+1)/2]} {
				expectGradient(t, p, of)
				for v := range 3 {
					expectForward(t, p, of, v)
				}
			}
			expectGradient(t, 5, shared)
		})
	}
	calls.Wait()
}
