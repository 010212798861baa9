package tests

import (
	"math"
	"math/big"
	"regexp"
	"slices"
	"strconv"
	"strings"
	"testing"

	"loop.example/polycircuits/impl"
)

func unknownGate(v int) impl.Gate        { return impl.Gate{Kind: impl.GateInput, A: v} }
func constGate(a int) impl.Gate          { return impl.Gate{Kind: impl.GateConst, A: a} }
func sumGate(a int, b int) impl.Gate     { return impl.Gate{Kind: impl.GateSum, A: a, B: b} }
func productGate(a int, b int) impl.Gate { return impl.Gate{Kind: impl.GateProduct, A: a, B: b} }
func isJoining(g impl.Gate) bool         { return g.Kind == impl.GateSum || g.Kind == impl.GateProduct }

// circuit returns a circuit with as many gates, most of which join others.
func (d *draw) circuit(p int, gates int) impl.Circuit {
	c := impl.Circuit{unknownGate(d.below(3))}
	for n := 1; n < gates; n++ {
		// Gates that are near make circuits that are deep.
		a, b := d.below(n), n-1-d.below(min(n, 3))
		if d.below(2) == 0 {
			a, b = b, a
		}
		switch d.below(8) {
		case 0, 1:
			c = append(c, unknownGate(d.below(3)))
		case 2:
			c = append(c, constGate(d.below(p)))
		case 3, 4, 5:
			c = append(c, sumGate(a, b))
		default:
			c = append(c, productGate(a, b))
		}
	}
	return c
}

// chain returns a circuit that ends with as many sums or products of each gate with itself.
func chain(kind int, joined int) impl.Circuit {
	c := impl.Circuit{unknownGate(0)}
	for n := range joined {
		c = append(c, impl.Gate{Kind: kind, A: n, B: n})
	}
	return c
}

// readCircuit returns the circuit of a text, which must be one.
func readCircuit(t *testing.T, p int, s string) impl.Circuit {
	t.Helper()
	c, ok := impl.ParseCircuit(p, s)
	if !ok {
		t.Fatalf("ParseCircuit(%d, %q) = %v, false", p, s, c)
	}
	return c
}

// expectCircuit checks a result that is a circuit.
func expectCircuit(t *testing.T, name string, got impl.Circuit, ok bool, want impl.Circuit) {
	t.Helper()
	if !ok || !slices.Equal(got, want) {
		t.Errorf("%s = %v, %v, want %v", name, got, ok, want)
	}
}

// expectNoCircuit checks a result that is none.
func expectNoCircuit(t *testing.T, name string, got impl.Circuit, ok bool) {
	t.Helper()
	if ok || len(got) != 0 {
		t.Errorf("%s = %v, %v, want no gates and false", name, got, ok)
	}
}

// usedBy returns the gates that a gate needs, in ascending order, found from the gate on.
func usedBy(c impl.Circuit, i int) []int {
	seen := map[int]bool{}
	for open := []int{i}; len(open) > 0; {
		next := open[0]
		open = open[1:]
		if g := c[next]; isJoining(g) && !seen[next] {
			open = append(open, g.A, g.B)
		}
		seen[next] = true
	}
	var list []int
	for i := range c {
		if seen[i] {
			list = append(list, i)
		}
	}
	return list
}

// valueOf returns the value of a gate as that of the whole tree above it.
func valueOf(p int, c impl.Circuit, i int, at [3]int) int {
	switch g := c[i]; g.Kind {
	case impl.GateInput:
		return at[g.A]
	case impl.GateConst:
		return g.A
	case impl.GateSum:
		return remainder(p, valueOf(p, c, g.A, at)+valueOf(p, c, g.B, at))
	case impl.GateProduct:
		return remainder(p, valueOf(p, c, g.A, at)*valueOf(p, c, g.B, at))
	}
	panic("no kind of a gate")
}

// expanded returns the polynomial of a gate, made of plain ones; false if it
// or one of those that it needs is none within the limits.
func expanded(p int, c impl.Circuit, i int) (impl.Poly, bool) {
	known := map[int]impl.Poly{}
	for _, j := range usedBy(c, i) {
		g := c[j]
		result := plain{}
		switch g.Kind {
		case impl.GateInput:
			var k powers
			k[g.A] = 1
			result[k] = 1
		case impl.GateConst:
			result[powers{}] = g.A
		case impl.GateSum:
			result = plainOf(known[g.A]).plus(plainOf(known[g.B]))
		case impl.GateProduct:
			result = plainOf(known[g.A]).times(plainOf(known[g.B]))
		}
		f, ok := result.over(p)
		if !ok {
			return nil, false
		}
		known[j] = f
	}
	return known[i], true
}

// depthAbove returns the longest way to a gate, as that of the whole tree above it.
func depthAbove(c impl.Circuit, i int) int {
	if !isJoining(c[i]) {
		return 0
	}
	return 1 + max(depthAbove(c, c[i].A), depthAbove(c, c[i].B))
}

// formalDegree returns the degree of the result, which is cut at the end alone.
func formalDegree(c impl.Circuit) int {
	var degrees []*big.Int
	for _, g := range c {
		degree := big.NewInt(0)
		switch g.Kind {
		case impl.GateInput:
			degree = big.NewInt(1)
		case impl.GateSum:
			degree = degrees[g.A]
			if degrees[g.B].Cmp(degree) > 0 {
				degree = degrees[g.B]
			}
		case impl.GateProduct:
			degree.Add(degrees[g.A], degrees[g.B])
		}
		degrees = append(degrees, degree)
	}
	if last := degrees[len(c)-1]; last.Cmp(big.NewInt(1000)) < 0 {
		return int(last.Int64())
	}
	return 1000
}

// withSpare returns a circuit with a further gate, which nothing uses, put before the gate i.
func withSpare(c impl.Circuit, i int, spare impl.Gate) impl.Circuit {
	var result impl.Circuit
	for _, g := range c {
		if isJoining(g) {
			if g.A >= i {
				g.A++
			}
			if g.B >= i {
				g.B++
			}
		}
		result = append(result, g)
	}
	return slices.Insert(result, i, spare)
}

// spareGate returns a gate that may stand behind n others.
func (d *draw) spareGate(p int, n int) impl.Gate {
	if n == 0 || d.below(3) == 0 {
		return constGate(d.below(p))
	}
	return impl.Gate{Kind: 2 + d.below(2), A: d.below(n), B: d.below(n)}
}

// noCircuits are no circuits over the field of p.
func noCircuits(p int) []impl.Circuit {
	list := []impl.Circuit{
		nil,
		{},
		make(impl.Circuit, 61),
		chain(impl.GateSum, 60),
		chain(impl.GateProduct, 1000),
	}
	// Each wrong gate stands alone, as the result behind two others, before
	// them, and between them where nothing uses it.
	add := func(g impl.Gate) {
		x := unknownGate(0)
		list = append(list, impl.Circuit{g}, impl.Circuit{x, x, g}, impl.Circuit{g, x, x}, impl.Circuit{x, g, sumGate(0, 0)})
	}
	for _, kind := range []int{math.MinInt, -1, 4, 5, math.MaxInt} {
		add(impl.Gate{Kind: kind})
		add(impl.Gate{Kind: kind, A: 1})
	}
	for _, b := range []int{math.MinInt, -1, 1, 2, math.MaxInt} {
		add(impl.Gate{Kind: impl.GateInput, B: b})
		add(impl.Gate{Kind: impl.GateConst, A: 1, B: b})
	}
	for _, v := range noUnknowns {
		add(unknownGate(v))
	}
	for _, a := range outsideOf(p) {
		add(constGate(a))
	}
	for _, n := range []int{math.MinInt, -2, -1, 2, 3, 60, math.MaxInt} {
		for _, kind := range []int{impl.GateSum, impl.GateProduct} {
			add(impl.Gate{Kind: kind, A: n, B: 0})
			add(impl.Gate{Kind: kind, A: 0, B: n})
			add(impl.Gate{Kind: kind, A: n, B: n})
		}
	}
	return append(list, impl.Circuit{sumGate(0, 0)}, impl.Circuit{productGate(0, 0), unknownGate(0)}, impl.Circuit{unknownGate(0), sumGate(0, 1)}, impl.Circuit{unknownGate(0), productGate(1, 0)})
}

func TestCircuitValid(t *testing.T) {
	if impl.GateInput != 0 || impl.GateConst != 1 || impl.GateSum != 2 || impl.GateProduct != 3 {
		t.Errorf("the kinds are %d, %d, %d and %d", impl.GateInput, impl.GateConst, impl.GateSum, impl.GateProduct)
	}
	if impl.MaxGates != 60 || impl.MaxFormal != 1000 {
		t.Errorf("MaxGates, MaxFormal = %d, %d", impl.MaxGates, impl.MaxFormal)
	}
	for _, p := range primes {
		valid := []impl.Circuit{
			{{}},
			{unknownGate(0)},
			{unknownGate(2)},
			{constGate(0)},
			{constGate(p - 1)},
			{unknownGate(0), sumGate(0, 0)},
			{unknownGate(0), productGate(0, 0)},
			{unknownGate(0), unknownGate(0), constGate(1), constGate(1), productGate(3, 0), sumGate(0, 4)},
			make(impl.Circuit, 60),
			chain(impl.GateSum, 59),
			chain(impl.GateProduct, 59),
		}
		for _, c := range valid {
			if !impl.CircuitValid(p, c) {
				t.Errorf("CircuitValid(%d, %v) = false", p, c)
			}
		}
		for _, c := range noCircuits(p) {
			if impl.CircuitValid(p, c) {
				t.Errorf("CircuitValid(%d, %v) = true", p, c)
			}
		}
	}
	for _, p := range noPrimes {
		for _, c := range []impl.Circuit{nil, {{}}, {constGate(0)}, {unknownGate(1), sumGate(0, 0)}} {
			if impl.CircuitValid(p, c) {
				t.Errorf("CircuitValid(%d, %v) = true", p, c)
			}
		}
	}
}

func TestCircuitTexts(t *testing.T) {
	texts := []struct {
		p    int
		text string
		c    impl.Circuit
	}{
		{2, "x", impl.Circuit{unknownGate(0)}},
		{2, "y", impl.Circuit{unknownGate(1)}},
		{2, "z", impl.Circuit{unknownGate(2)}},
		{2, "0", impl.Circuit{constGate(0)}},
		{13, "12", impl.Circuit{constGate(12)}},
		{5, "x;+0 0", impl.Circuit{unknownGate(0), sumGate(0, 0)}},
		{5, "4;*0 0", impl.Circuit{constGate(4), productGate(0, 0)}},
		{5, "x;y;+0 1;*2 2", impl.Circuit{unknownGate(0), unknownGate(1), sumGate(0, 1), productGate(2, 2)}},
		{11, "10;z;*1 0;+2 0;*3 1;x", impl.Circuit{constGate(10), unknownGate(2), productGate(1, 0), sumGate(2, 0), productGate(3, 1), unknownGate(0)}},
		{3, strings.Repeat("y;", 59) + "*58 10", append(slices.Repeat(impl.Circuit{unknownGate(1)}, 59), productGate(58, 10))},
	}
	for _, c := range texts {
		if got := impl.FormatCircuit(c.p, c.c); got != c.text {
			t.Errorf("FormatCircuit(%d, %v) = %q, want %q", c.p, c.c, got, c.text)
		}
		got, ok := impl.ParseCircuit(c.p, c.text)
		expectCircuit(t, "ParseCircuit "+c.text, got, ok, c.c)
	}
	d := draw(20)
	for _, p := range primes {
		for n := range 120 {
			c := d.circuit(p, 1+n%60)
			got, ok := impl.ParseCircuit(p, impl.FormatCircuit(p, c))
			expectCircuit(t, "ParseCircuit of FormatCircuit", got, ok, c)
		}
	}
}

func TestTextsOfNoCircuits(t *testing.T) {
	nearly := []string{
		"", " ", ";", "x;", ";x", "x;;y", " x", "x ", "x; y", "x ;y", "X", "a", "w", "xy", "x2", "2x", "00", "01", "-0", "+0", "-1", "5", "05", "13", "1.0", "1e0", "0x1", "1_0",
		"+0 0", "*0 0", "x;+", "x;+0", "x;+0 ", "x;+ 0", "x;+0  0", "x;+0 0 ", "x;+ 0 0", "x;+00 0", "x;+0 00", "x;+-0 0", "x;+0 -0", "x;++0 0", "x;+0 +0", "x;+0 0 0", "x;*0 0 0",
		"x;+0 1", "x;+1 0", "x;*1 1", "x;*-1 0", "x;*0 -1", "x;- 0 0", "x;/0 0", "x;0 0", "x;0+0", "x;0 + 0", "x;+0,0", "x;+0\t0", "x;+0\n0", "x\n", "x,y", "x:y", "x;y;- 0 1", "x;+x x", "x;+0 x",
		"x;+18446744073709551616 0", "x;*0 4294967296", "x;+9223372036854775808 0", "18446744073709551617", "4294967297",
		"\x00", "x\x00", "\xff", "x;\xff", "x;+0\x000", "²", "x;+٠ 0", "x;+0\u00a00", "\u200bx", "x\ufffd", "x;+0 0\u00a0",
	}
	for _, s := range nearly {
		c, ok := impl.ParseCircuit(5, s)
		expectNoCircuit(t, "ParseCircuit "+strconv.Quote(s), c, ok)
	}
	long := []string{
		strings.Repeat("x;", 60) + "x", strings.Repeat(";", 100000), strings.Repeat("1", 100000), strings.Repeat("x;", 100000) + "x",
		"x;+" + strings.Repeat("0", 100000) + " 0", strings.Repeat("+", 100000), strings.Repeat(" ", 100000),
	}
	for _, s := range long {
		c, ok := impl.ParseCircuit(5, s)
		expectNoCircuit(t, "ParseCircuit of a long text", c, ok)
	}
	for _, p := range noPrimes {
		for _, s := range []string{"", "0", "1", "x", "x;+0 0"} {
			c, ok := impl.ParseCircuit(p, s)
			expectNoCircuit(t, "ParseCircuit without a prime", c, ok)
		}
	}
}

// gateText is the text of a gate, so far as it does not depend on the gates before it.
var gateText = regexp.MustCompile(`^(?:([xyz])|(0|[1-9][0-9]?)|[+*](0|[1-9][0-9]?) (0|[1-9][0-9]?))$`)

// isCircuitText tells by the text alone whether it is that of a circuit.
func isCircuitText(p int, s string) bool {
	parts := strings.Split(s, ";")
	for i, part := range parts {
		found := gateText.FindStringSubmatch(part)
		if found == nil {
			return false
		}
		for k, limit := range map[int]int{2: p, 3: i, 4: i} {
			if n, _ := strconv.Atoi(found[k]); found[k] != "" && n >= limit {
				return false
			}
		}
	}
	return len(parts) <= 60
}

func expectParsed(t *testing.T, p int, s string) bool {
	t.Helper()
	c, ok := impl.ParseCircuit(p, s)
	switch want := isCircuitText(p, s); {
	case want && (!ok || !impl.CircuitValid(p, c) || impl.FormatCircuit(p, c) != s):
		t.Errorf("ParseCircuit(%d, %q) = %v, %v", p, s, c, ok)
	case !want:
		expectNoCircuit(t, "ParseCircuit "+strconv.Quote(s), c, ok)
	}
	return ok
}

func TestShortTexts(t *testing.T) {
	const signs = "xz012+*-; "
	read := 0
	var longer func(s string)
	longer = func(s string) {
		if expectParsed(t, 2, s) {
			read++
		}
		if len(s) < 4 {
			for i := range signs {
				longer(s + signs[i:i+1])
			}
			return
		}
		// Behind a first gate these are also the texts of sums and products.
		if expectParsed(t, 2, "x;"+s) {
			read++
		}
	}
	longer("")
	// They are x, z, 0 and 1, two of these, and, behind a gate, its sum and product with itself.
	if read != 4+4*4+2 {
		t.Errorf("%d texts are those of circuits", read)
	}
}

// No changed text of a circuit is taken for another circuit, and none that is the text of one is refused.
func TestChangedCircuitTexts(t *testing.T) {
	const signs = "xyz0123456789+*-; "
	d := draw(21)
	read := 0
	for range 20000 {
		p := primes[d.below(len(primes))]
		s := impl.FormatCircuit(p, d.circuit(p, 1+d.below(14)))
		for range 1 + d.below(2) {
			place := d.below(len(s) + 1)
			end := min(len(s), place+d.below(2))
			begin := d.below(len(signs))
			s = s[:place] + signs[begin:begin+d.below(2)] + s[end:]
		}
		if expectParsed(t, p, s) {
			read++
		}
	}
	if read == 0 || read == 20000 {
		t.Errorf("%d of the texts are those of circuits", read)
	}
}

func TestEvalGates(t *testing.T) {
	known := []struct {
		p    int
		text string
		at   [3]int
		want []int
	}{
		{5, "x;y;+0 1;*2 2", [3]int{2, 4, 0}, []int{2, 4, 1, 1}},
		{5, "x", [3]int{3, 1, 2}, []int{3}},
		{5, "y", [3]int{3, 1, 2}, []int{1}},
		{5, "z", [3]int{3, 1, 2}, []int{2}},
		{13, "12", [3]int{3, 1, 2}, []int{12}},
		{13, "12;*0 0;+0 0", [3]int{}, []int{12, 1, 11}},
		{2, "1;+0 0;*0 1", [3]int{1, 1, 1}, []int{1, 0, 0}},
		{7, "x;3;y;*0 2;z;+3 3", [3]int{2, 5, 6}, []int{2, 3, 5, 3, 6, 6}},
	}
	for _, k := range known {
		if got := impl.EvalGates(k.p, readCircuit(t, k.p, k.text), k.at); !slices.Equal(got, k.want) {
			t.Errorf("EvalGates(%d, %s, %v) = %v, want %v", k.p, k.text, k.at, got, k.want)
		}
	}
	d := draw(22)
	for _, p := range primes {
		for range 100 {
			c := d.circuit(p, 1+d.below(14))
			at := [3]int{d.below(p), d.below(p), d.below(p)}
			var want []int
			for i := range c {
				want = append(want, valueOf(p, c, i, at))
			}
			if got := impl.EvalGates(p, c, at); !slices.Equal(got, want) {
				t.Errorf("EvalGates(%d, %v, %v) = %v, want %v", p, c, at, got, want)
			}
		}
		// x to the power 2^59 and 2^59 times x.
		for _, x := range []int{0, 1, p - 1} {
			for _, kind := range []int{impl.GateProduct, impl.GateSum} {
				values := impl.EvalGates(p, chain(kind, 59), [3]int{x, 0, 0})
				want := powerBySquares(p, x, 1<<59)
				if kind == impl.GateSum {
					want = remainder(p, 1<<59) * x % p
				}
				if len(values) != 60 || values[59] != want {
					t.Errorf("EvalGates(%d, 59 of the kind %d, %d) = %v, want %d", p, kind, x, values, want)
				}
			}
		}
		for _, n := range outsideOf(p) {
			for v := range 3 {
				var at [3]int
				at[v] = n
				for _, c := range []impl.Circuit{{constGate(0)}, {unknownGate(v)}} {
					if got := impl.EvalGates(p, c, at); len(got) != 0 {
						t.Errorf("EvalGates(%d, %v, %v) = %v, want none", p, c, at, got)
					}
				}
			}
		}
	}
}

func TestPolyOfCircuit(t *testing.T) {
	known := []struct {
		p    int
		text string
		want string
	}{
		{5, "x;y;+0 1;*2 2", "x2+2xy+y2"},
		{2, "x;y;+0 1;*2 2", "x2+y2"},
		{5, "z", "z"},
		{5, "4", "4"},
		{5, "0", "0"},
		{2, "x;+0 0", "0"},
		{5, "x;*0 0", "x2"},
		{5, "x;4;*0 1;+0 2", "0"},
		{5, "y;0;*0 1", "0"},
		{5, "y;0;+0 1", "y"},
		{5, "y;0;+0 1;x", "x"},
		{5, "x;*0 0;*1 1;*2 2;*3 0", "x9"},
		{13, "1;x;+0 1;*2 2;*3 3", "x4+4x3+6x2+4x+1"},
	}
	for _, k := range known {
		got, ok := impl.PolyOfCircuit(k.p, readCircuit(t, k.p, k.text))
		expectPoly(t, "PolyOfCircuit "+k.text, got, ok, read(t, k.p, k.want))
	}
	d := draw(23)
	none := 0
	for _, p := range primes {
		for range 300 {
			c := d.circuit(p, 1+d.below(20))
			got, ok := impl.PolyOfCircuit(p, c)
			if want, isPoly := expanded(p, c, len(c)-1); isPoly {
				expectPoly(t, "PolyOfCircuit "+impl.FormatCircuit(p, c), got, ok, want)
			} else {
				none++
				expectNone(t, "PolyOfCircuit "+impl.FormatCircuit(p, c), got, ok)
			}
		}
	}
	if none == 0 || none > 900 {
		t.Errorf("%d of the circuits have no polynomial", none)
	}
}

// A gate without a polynomial matters where it is used, also if it is
// multiplied by 0 or taken away again, and only there.
func TestGatesWithoutPoly(t *testing.T) {
	const great = "x;*0 0;*1 1;*2 2;*1 3" // x10
	for _, s := range []string{great, great + ";+4 4", great + ";4;*4 5;+4 6", great + ";0;*4 5", great + ";0;*5 4", great + ";1;+4 5", "x;*0 0;*1 1;*2 2;*3 3"} {
		got, ok := impl.PolyOfCircuit(5, readCircuit(t, 5, s))
		expectNone(t, "PolyOfCircuit "+s, got, ok)
	}
	for s, want := range map[string]string{great + ";*3 0": "x9", great + ";y": "y", great + ";*4 4;+3 3": "2x8", great + ";0": "0", great + ";*4 4;+0 1": "x2+x"} {
		got, ok := impl.PolyOfCircuit(5, readCircuit(t, 5, s))
		expectPoly(t, "PolyOfCircuit "+s, got, ok, read(t, 5, want))
	}
	// Powers of x+y+z+1 have 56 terms and then 84.
	const sum = "x;y;z;1;+0 1;+2 3;+4 5;*6 6;*7 7"
	c := readCircuit(t, 13, sum+";*8 6")
	got, ok := impl.PolyOfCircuit(13, c)
	want, _ := expanded(13, c, len(c)-1)
	if expectPoly(t, "PolyOfCircuit with 56 terms", got, ok, want); len(got) != 56 {
		t.Errorf("PolyOfCircuit(%s) has %d terms", sum, len(got))
	}
	for _, more := range []string{";*8 6;*9 6", ";*8 7", ";*8 7;0;*9 10"} {
		got, ok := impl.PolyOfCircuit(13, readCircuit(t, 13, sum+more))
		expectNone(t, "PolyOfCircuit with 84 terms", got, ok)
	}
	c = readCircuit(t, 13, sum+";*8 7;*8 6")
	got, ok = impl.PolyOfCircuit(13, c)
	expectPoly(t, "PolyOfCircuit with 84 terms that nothing uses", got, ok, want)
}

// sumOfTerms returns a circuit for the sum of 1 and the powers of x up to 5,
// times such a sum of powers of y, which has as many terms as there are to be;
// z stands for one more.
func sumOfTerms(t *testing.T, terms int) impl.Circuit {
	t.Helper()
	powersOf := func(letter string, n int, at int) []string {
		gates := []string{letter, "1", "+" + strconv.Itoa(at) + " " + strconv.Itoa(at+1)}
		for range n - 2 {
			last := at + len(gates) - 1
			gates = append(gates, "*"+strconv.Itoa(last)+" "+strconv.Itoa(at), "+"+strconv.Itoa(last+1)+" "+strconv.Itoa(at+1))
		}
		return gates
	}
	gates := powersOf("x", 6, 0)
	ofX := len(gates) - 1
	gates = append(gates, powersOf("y", terms/6, ofX+1)...)
	gates = append(gates, "*"+strconv.Itoa(ofX)+" "+strconv.Itoa(len(gates)-1))
	if terms%6 == 1 {
		gates = append(gates, "z", "+"+strconv.Itoa(len(gates)-1)+" "+strconv.Itoa(len(gates)))
	}
	return readCircuit(t, 2, strings.Join(gates, ";"))
}

func TestPolysWith60Terms(t *testing.T) {
	for _, p := range primes {
		for _, terms := range []int{54, 55, 60} {
			c := sumOfTerms(t, terms)
			got, ok := impl.PolyOfCircuit(p, c)
			want, _ := expanded(p, c, len(c)-1)
			if expectPoly(t, "PolyOfCircuit", got, ok, want); len(got) != terms {
				t.Errorf("PolyOfCircuit(%d, %v) has %d terms, want %d", p, c, len(got), terms)
			}
		}
		got, ok := impl.PolyOfCircuit(p, sumOfTerms(t, 61))
		expectNone(t, "PolyOfCircuit with 61 terms", got, ok)
	}
}

// A circuit computes the value of its polynomial.
func TestCircuitsComputeValues(t *testing.T) {
	d := draw(24)
	for _, p := range primes {
		polys := 0
		for range 60 {
			c := d.circuit(p, 1+d.below(25))
			f, ok := impl.PolyOfCircuit(p, c)
			if !ok {
				continue
			}
			polys++
			if formal := impl.FormalDegree(p, c); impl.DegreeOf(p, f) > formal {
				t.Errorf("the degree of %v is %d, the formal degree of %v is %d", f, impl.DegreeOf(p, f), c, formal)
			}
			for range 40 {
				at := [3]int{d.below(p), d.below(p), d.below(p)}
				values := impl.EvalGates(p, c, at)
				if want := impl.EvalPoly(p, f, at); len(values) != len(c) || values[len(c)-1] != want {
					t.Errorf("EvalGates(%d, %v, %v) = %v, and %v has the value %d", p, c, at, values, f, want)
				}
			}
		}
		if polys < 20 {
			t.Errorf("over the field of %d, %d circuits have a polynomial", p, polys)
		}
	}
}

func TestUsedAndPruned(t *testing.T) {
	known := []struct {
		text   string
		used   []int
		pruned string
	}{
		{"x", []int{0}, "x"},
		{"3", []int{0}, "3"},
		{"x;y", []int{1}, "y"},
		{"x;x", []int{1}, "x"},
		{"x;+0 0", []int{0, 1}, "x;+0 0"},
		{"y;x;*1 1", []int{1, 2}, "x;*0 0"},
		{"x;y;+0 1;z", []int{3}, "z"},
		{"x;y;+0 1;*2 2;2", []int{4}, "2"},
		{"x;3;y;*0 2;z;+3 3", []int{0, 2, 3, 5}, "x;y;*0 1;+2 2"},
		{"x;y;z;*2 0;+3 0", []int{0, 2, 3, 4}, "x;z;*1 0;+2 0"},
		{"1;y;2;z;*0 2;*1 1;+3 5", []int{1, 3, 5, 6}, "y;z;*0 0;+1 2"},
		{"x;+0 0;+1 1;*1 0", []int{0, 1, 3}, "x;+0 0;*1 0"},
	}
	for _, k := range known {
		c := readCircuit(t, 5, k.text)
		if got := impl.UsedGates(5, c); !slices.Equal(got, k.used) {
			t.Errorf("UsedGates(5, %s) = %v, want %v", k.text, got, k.used)
		}
		got, ok := impl.PruneCircuit(5, c)
		expectCircuit(t, "PruneCircuit "+k.text, got, ok, readCircuit(t, 5, k.pruned))
	}
	for _, p := range primes {
		for _, kind := range []int{impl.GateSum, impl.GateProduct} {
			c := chain(kind, 59)
			if got := impl.UsedGates(p, c); len(got) != 60 || got[59] != 59 {
				t.Errorf("UsedGates(%d, %v) = %v", p, c, got)
			}
			got, ok := impl.PruneCircuit(p, c)
			expectCircuit(t, "PruneCircuit of 60 gates", got, ok, c)
		}
		got, ok := impl.PruneCircuit(p, append(chain(impl.GateSum, 58), unknownGate(2)))
		expectCircuit(t, "PruneCircuit of 59 gates that nothing uses", got, ok, impl.Circuit{unknownGate(2)})
	}
	d := draw(25)
	for _, p := range primes {
		for range 200 {
			c := d.circuit(p, 1+d.below(60))
			used := usedBy(c, len(c)-1)
			if got := impl.UsedGates(p, c); !slices.Equal(got, used) {
				t.Errorf("UsedGates(%d, %v) = %v, want %v", p, c, got, used)
			}
			var want impl.Circuit
			for _, i := range used {
				g := c[i]
				if isJoining(g) {
					g.A, g.B = slices.Index(used, g.A), slices.Index(used, g.B)
				}
				want = append(want, g)
			}
			got, ok := impl.PruneCircuit(p, c)
			expectCircuit(t, "PruneCircuit "+impl.FormatCircuit(p, c), got, ok, want)
			again, ok := impl.PruneCircuit(p, got)
			expectCircuit(t, "PruneCircuit of what it returns", again, ok, want)
		}
	}
}

// sameButForSpare compares what is told of two circuits that differ in gates that nothing uses.
func sameButForSpare(t *testing.T, p int, c impl.Circuit, spare impl.Circuit, at [3]int) {
	t.Helper()
	f, isPoly := impl.PolyOfCircuit(p, c)
	if g, ok := impl.PolyOfCircuit(p, spare); ok != isPoly || !slices.Equal(f, g) {
		t.Errorf("PolyOfCircuit(%d, %v) = %v, %v, and of %v it is %v, %v", p, c, f, isPoly, spare, g, ok)
	}
	pruned, _ := impl.PruneCircuit(p, c)
	got, ok := impl.PruneCircuit(p, spare)
	expectCircuit(t, "PruneCircuit of spare gates", got, ok, pruned)
	values, others := impl.EvalGates(p, c, at), impl.EvalGates(p, spare, at)
	if values[len(c)-1] != others[len(spare)-1] {
		t.Errorf("EvalGates(%d, %v, %v) = %v, and of %v it is %v", p, c, at, values, spare, others)
	}
	sums, products := impl.CostOf(p, c)
	if a, b := impl.CostOf(p, spare); a != sums || b != products {
		t.Errorf("CostOf(%d, %v) = %d, %d, and of %v it is %d, %d", p, c, sums, products, spare, a, b)
	}
	if a, b := impl.DepthOf(p, c), impl.DepthOf(p, spare); a != b {
		t.Errorf("DepthOf(%d, %v) = %d, and of %v it is %d", p, c, a, spare, b)
	}
	if a, b := impl.FormalDegree(p, c), impl.FormalDegree(p, spare); a != b {
		t.Errorf("FormalDegree(%d, %v) = %d, and of %v it is %d", p, c, a, spare, b)
	}
}

// What is not used changes nothing.
func TestSpareGatesChangeNothing(t *testing.T) {
	d := draw(26)
	for _, p := range primes {
		for range 60 {
			c := d.circuit(p, 1+d.below(20))
			at := [3]int{d.below(p), d.below(p), d.below(p)}
			spare := c
			for range 1 + d.below(10) {
				place := d.below(len(spare))
				spare = withSpare(spare, place, d.spareGate(p, place))
			}
			sameButForSpare(t, p, c, spare, at)
			pruned, _ := impl.PruneCircuit(p, c)
			sameButForSpare(t, p, pruned, c, at)
		}
	}
}

func TestCostDepthAndFormalDegree(t *testing.T) {
	known := []struct {
		text                          string
		sums, products, depth, formal int
	}{
		{"x", 0, 0, 0, 1},
		{"3", 0, 0, 0, 0},
		{"0", 0, 0, 0, 0},
		{"x;+0 0", 1, 0, 1, 1},
		{"x;*0 0", 0, 1, 1, 2},
		{"3;*0 0", 0, 1, 1, 0},
		{"3;+0 0", 1, 0, 1, 0},
		{"x;3;*0 1", 0, 1, 1, 1},
		{"x;3;+0 1", 1, 0, 1, 1},
		{"3;x;+0 1", 1, 0, 1, 1},
		{"x;0;*0 1", 0, 1, 1, 1},
		{"x;y;+0 1;*2 2", 1, 1, 2, 2},
		{"x;3;y;*0 2;z;+3 3", 1, 1, 2, 2},
		{"x;*0 0;*1 1;y", 0, 0, 0, 1},
		{"x;*0 0;*1 1;y;+3 0", 1, 0, 1, 1},
		{"x;*0 0;*1 1;+2 0", 1, 2, 3, 4},
		{"x;*0 0;*1 1;+0 2", 1, 2, 3, 4},
		{"x;*0 0;*1 1;*0 2", 0, 3, 3, 5},
		{"x;+0 0;+0 0;*1 2;+3 3", 3, 1, 3, 2},
	}
	for _, k := range known {
		c := readCircuit(t, 5, k.text)
		if a, b := impl.CostOf(5, c); a != k.sums || b != k.products {
			t.Errorf("CostOf(5, %s) = %d, %d, want %d, %d", k.text, a, b, k.sums, k.products)
		}
		if got := impl.DepthOf(5, c); got != k.depth {
			t.Errorf("DepthOf(5, %s) = %d, want %d", k.text, got, k.depth)
		}
		if got := impl.FormalDegree(5, c); got != k.formal {
			t.Errorf("FormalDegree(5, %s) = %d, want %d", k.text, got, k.formal)
		}
	}
	d := draw(27)
	for _, p := range primes {
		for range 200 {
			c := d.circuit(p, 1+d.below(16))
			last := len(c) - 1
			counts := map[int]int{}
			for _, i := range usedBy(c, last) {
				counts[c[i].Kind]++
			}
			if a, b := impl.CostOf(p, c); a != counts[2] || b != counts[3] {
				t.Errorf("CostOf(%d, %v) = %d, %d, want %d, %d", p, c, a, b, counts[2], counts[3])
			}
			if got, want := impl.DepthOf(p, c), depthAbove(c, last); got != want {
				t.Errorf("DepthOf(%d, %v) = %d, want %d", p, c, got, want)
			}
		}
		for range 200 {
			c := d.circuit(p, 1+d.below(60))
			if got, want := impl.FormalDegree(p, c), formalDegree(c); got != want {
				t.Errorf("FormalDegree(%d, %v) = %d, want %d", p, c, got, want)
			}
		}
	}
}

func TestGreatestDepthAndDegree(t *testing.T) {
	for _, p := range primes {
		for n := range 60 {
			sums, products := chain(impl.GateSum, n), chain(impl.GateProduct, n)
			if impl.DepthOf(p, sums) != n || impl.DepthOf(p, products) != n {
				t.Errorf("DepthOf(%d, %d gates) = %d, %d", p, n+1, impl.DepthOf(p, sums), impl.DepthOf(p, products))
			}
			if a, b := impl.CostOf(p, sums); a != n || b != 0 {
				t.Errorf("CostOf(%d, %d sums) = %d, %d", p, n, a, b)
			}
			if a, b := impl.CostOf(p, products); a != 0 || b != n {
				t.Errorf("CostOf(%d, %d products) = %d, %d", p, n, a, b)
			}
			want := 1000
			if n < 10 {
				want = 1 << n
			}
			if got := impl.FormalDegree(p, products); got != want {
				t.Errorf("FormalDegree(%d, %d products) = %d, want %d", p, n, got, want)
			}
			if got := impl.FormalDegree(p, sums); got != 1 {
				t.Errorf("FormalDegree(%d, %d sums) = %d, want 1", p, n, got)
			}
		}
		// Behind the powers 1 to 512 these make 992, 999, 1000 and more.
		const powersTo512 = "x;*0 0;*1 1;*2 2;*3 3;*4 4;*5 5;*6 6;*7 7;*8 8"
		const to992 = powersTo512 + ";*9 8;*10 7;*11 6;*12 5"
		degrees := map[string]int{
			powersTo512: 512, to992: 992, to992 + ";*13 2": 996, to992 + ";*13 2;*14 1;*15 0": 999, to992 + ";*13 3": 1000, to992 + ";*13 2;*14 2": 1000,
			to992 + ";*13 2;*14 2;+15 13": 1000, to992 + ";*13 3;*14 0": 1000, to992 + ";*13 4": 1000, to992 + ";*13 3;1;*14 15": 1000, to992 + ";*13 4;+0 14": 1000,
			to992 + ";*13 4;*14 14;*0 0": 2, powersTo512 + ";*9 9": 1000, powersTo512 + ";*9 9;+10 9;*11 11;+9 9": 512,
		}
		for s, want := range degrees {
			if got := impl.FormalDegree(p, readCircuit(t, p, s)); got != want {
				t.Errorf("FormalDegree(%d, %s) = %d, want %d", p, s, got, want)
			}
		}
	}
}

func TestJoinCircuits(t *testing.T) {
	known := []struct {
		c, d, want string
		kind       int
	}{
		{"x", "y", "x;y;+0 1", impl.GateSum},
		{"x", "x", "x;x;*0 1", impl.GateProduct},
		{"1", "2", "1;2;+0 1", impl.GateSum},
		{"x;y;+0 1", "z;*0 0", "x;y;+0 1;z;*3 3;*2 4", impl.GateProduct},
		{"x;*0 0;y", "2;z;x;*1 0", "x;*0 0;y;2;z;x;*4 3;+2 6", impl.GateSum},
	}
	for _, k := range known {
		got, ok := impl.JoinCircuits(5, readCircuit(t, 5, k.c), readCircuit(t, 5, k.d), k.kind)
		expectCircuit(t, "JoinCircuits "+k.c+" and "+k.d, got, ok, readCircuit(t, 5, k.want))
	}
	d := draw(28)
	for _, p := range primes {
		for n := range 60 {
			first, second := d.circuit(p, n+1), d.circuit(p, d.below(60)+1)
			for _, kind := range []int{impl.GateSum, impl.GateProduct} {
				expectJoined(t, p, first, second, kind)
			}
		}
		for n := 1; n <= 60; n++ {
			for _, m := range []int{58 - n, 59 - n, 60 - n, 61 - n} {
				if m > 0 {
					expectJoined(t, p, d.circuit(p, n), d.circuit(p, m), impl.GateSum)
				}
			}
		}
		x := impl.Circuit{unknownGate(0)}
		for _, kind := range []int{math.MinInt, -1, impl.GateInput, impl.GateConst, 4, math.MaxInt} {
			got, ok := impl.JoinCircuits(p, x, x, kind)
			expectNoCircuit(t, "JoinCircuits of the kind "+strconv.Itoa(kind), got, ok)
		}
	}
}

// expectJoined checks the gates of a joined circuit, and that it computes what it is joined of.
func expectJoined(t *testing.T, p int, c impl.Circuit, d impl.Circuit, kind int) {
	t.Helper()
	got, ok := impl.JoinCircuits(p, c, d, kind)
	if len(c)+len(d)+1 > 60 {
		expectNoCircuit(t, "JoinCircuits", got, ok)
		return
	}
	want := slices.Clone(c)
	for _, g := range d {
		if isJoining(g) {
			g = impl.Gate{Kind: g.Kind, A: g.A + len(c), B: g.B + len(c)}
		}
		want = append(want, g)
	}
	want = append(want, impl.Gate{Kind: kind, A: len(c) - 1, B: len(c) + len(d) - 1})
	expectCircuit(t, "JoinCircuits", got, ok, want)
	f, isPoly := impl.PolyOfCircuit(p, c)
	g, areBoth := impl.PolyOfCircuit(p, d)
	if !isPoly || !areBoth {
		return
	}
	both := plainOf(f).plus(plainOf(g))
	if kind == impl.GateProduct {
		both = plainOf(f).times(plainOf(g))
	}
	result, ok := impl.PolyOfCircuit(p, got)
	expectPlain(t, "PolyOfCircuit of JoinCircuits", p, result, ok, both)
}

// gatesOf returns the texts of the gates for a polynomial, made of the factors of its terms.
func gatesOf(f impl.Poly) []string {
	if len(f) == 0 {
		return []string{"0"}
	}
	var gates []string
	put := func(s string) string {
		gates = append(gates, s)
		return strconv.Itoa(len(gates) - 1)
	}
	sum := ""
	for _, term := range f {
		product := ""
		if term.Times != 1 || term.Powers == (powers{}) {
			product = put(strconv.Itoa(term.Times))
		}
		for _, letter := range strings.Repeat("x", term.Powers[0]) + strings.Repeat("y", term.Powers[1]) + strings.Repeat("z", term.Powers[2]) {
			place := strconv.Itoa(slices.Index(gates, string(letter)))
			if place == "-1" {
				place = put(string(letter))
			}
			if product != "" {
				place = put("*" + product + " " + place)
			}
			product = place
		}
		if sum != "" {
			product = put("+" + sum + " " + product)
		}
		sum = product
	}
	return gates
}

func TestCircuitOf(t *testing.T) {
	known := map[string]string{
		"0": "0", "1": "1", "3": "3", "x": "x", "z": "z", "2y": "2;y;*0 1", "x2": "x;*0 0", "xyz": "x;y;*0 1;z;*2 3", "xy+x": "x;y;*0 1;+2 0", "x+1": "x;1;+0 1",
		"2x+2": "2;x;*0 1;2;+2 3", "2x+2y+2": "2;x;*0 1;2;y;*3 4;+2 5;2;+6 7", "y+z": "y;z;+0 1", "x+y2+1": "x;y;*1 1;+0 2;1;+3 4",
		"2x2y+3z+1": "2;x;*0 1;*2 1;y;*3 4;3;z;*6 7;+5 8;1;+9 10",
	}
	for s, want := range known {
		got, ok := impl.CircuitOf(5, read(t, 5, s))
		expectCircuit(t, "CircuitOf "+s, got, ok, readCircuit(t, 5, want))
	}
	d := draw(29)
	for _, p := range primes {
		fit := 0
		for range 300 {
			f := d.poly(p, d.below(8), 1+d.below(9))
			want := gatesOf(f)
			got, ok := impl.CircuitOf(p, f)
			if len(want) > 60 {
				expectNoCircuit(t, "CircuitOf "+impl.FormatPoly(p, f), got, ok)
				continue
			}
			fit++
			if !ok || impl.FormatCircuit(p, got) != strings.Join(want, ";") {
				t.Errorf("CircuitOf(%d, %s) = %q, %v, want %q", p, impl.FormatPoly(p, f), impl.FormatCircuit(p, got), ok, want)
			}
			again, ok := impl.PolyOfCircuit(p, got)
			expectPoly(t, "PolyOfCircuit of CircuitOf", again, ok, f)
			if used := impl.UsedGates(p, got); len(used) != len(got) {
				t.Errorf("CircuitOf(%d, %s) has gates that nothing uses: %v", p, impl.FormatPoly(p, f), got)
			}
		}
		if fit < 100 || fit == 300 {
			t.Errorf("over the field of %d, %d of the polynomials have circuits", p, fit)
		}
	}
}

func TestCircuitOfWith60Gates(t *testing.T) {
	// The first two terms take 55 gates, and a third one as many as it has
	// factors, besides two for a number that is not 1.
	sizes := map[string]int{
		"x9y9z9": 29, "x9y9z9+x9y9z8": 55, "x9y9z9+x9y9z8+1": 57, "x9y9z9+x9y9z8+x4": 59, "x9y9z9+x9y9z8+x5": 60, "x9y9z9+x9y9z8+x6": 61, "x9y9z9+x9y9z8+x2y2z": 60, "x9y9z9+x9y9z8+x2y2z2": 61,
		"x9y9z9+x9y9z8+2x3": 60, "x9y9z9+x9y9z8+2x4": 61, "x9y9z9+x9y9z8+x3+1": 60, "x9y9z9+x9y9z8+x3+x+1": 61, "x9y9z9+x9y9z8+x3+x+y": 60, "2x9y9z9+3x9y9z8+4x9y9z7": 86,
	}
	for s, size := range sizes {
		f := read(t, 13, s)
		if n := len(gatesOf(f)); n != size {
			t.Fatalf("%s takes %d gates, not %d", s, n, size)
		}
		got, ok := impl.CircuitOf(13, f)
		if size > 60 {
			expectNoCircuit(t, "CircuitOf "+s, got, ok)
			continue
		}
		if len(got) != size || !ok || impl.FormatCircuit(13, got) != strings.Join(gatesOf(f), ";") {
			t.Errorf("CircuitOf(%s) = %v, %v", s, got, ok)
		}
		again, ok := impl.PolyOfCircuit(13, got)
		expectPoly(t, "PolyOfCircuit of CircuitOf", again, ok, f)
	}
	for _, p := range primes {
		got, ok := impl.CircuitOf(p, first(60))
		expectNoCircuit(t, "CircuitOf 60 terms", got, ok)
		for _, f := range noPolys(p) {
			got, ok := impl.CircuitOf(p, f)
			expectNoCircuit(t, "CircuitOf no polynomial", got, ok)
		}
	}
	for _, p := range noPrimes {
		for _, f := range []impl.Poly{nil, {{Times: 1}}} {
			got, ok := impl.CircuitOf(p, f)
			expectNoCircuit(t, "CircuitOf without a prime", got, ok)
		}
	}
}

// expectNothingOf checks all functions for a c that is no circuit over the field of p.
func expectNothingOf(t *testing.T, p int, c impl.Circuit) {
	t.Helper()
	if got := impl.FormatCircuit(p, c); impl.CircuitValid(p, c) || got != "" {
		t.Errorf("FormatCircuit(%d, %v) = %q", p, c, got)
	}
	for _, at := range [][3]int{{0, 0, 0}, {1, 1, 1}} {
		if got := impl.EvalGates(p, c, at); len(got) != 0 {
			t.Errorf("EvalGates(%d, %v, %v) = %v", p, c, at, got)
		}
	}
	f, ok := impl.PolyOfCircuit(p, c)
	expectNone(t, "PolyOfCircuit", f, ok)
	if got := impl.UsedGates(p, c); len(got) != 0 {
		t.Errorf("UsedGates(%d, %v) = %v", p, c, got)
	}
	got, ok := impl.PruneCircuit(p, c)
	expectNoCircuit(t, "PruneCircuit", got, ok)
	if a, b := impl.CostOf(p, c); a != -1 || b != -1 {
		t.Errorf("CostOf(%d, %v) = %d, %d", p, c, a, b)
	}
	if a, b := impl.DepthOf(p, c), impl.FormalDegree(p, c); a != -1 || b != -1 {
		t.Errorf("DepthOf, FormalDegree(%d, %v) = %d, %d", p, c, a, b)
	}
	for _, d := range []impl.Circuit{{unknownGate(0)}, c} {
		for kind := range 4 {
			got, ok := impl.JoinCircuits(p, c, d, kind)
			expectNoCircuit(t, "JoinCircuits", got, ok)
			got, ok = impl.JoinCircuits(p, d, c, kind)
			expectNoCircuit(t, "JoinCircuits", got, ok)
		}
	}
}

func TestInvalidCircuits(t *testing.T) {
	for _, p := range primes {
		for _, c := range noCircuits(p) {
			expectNothingOf(t, p, c)
		}
	}
	for _, p := range noPrimes {
		for _, c := range []impl.Circuit{nil, {{}}, {constGate(0)}, {constGate(1)}, {unknownGate(0), productGate(0, 0)}} {
			expectNothingOf(t, p, c)
		}
	}
}

func expectNewCircuits(t *testing.T, name string, call func() (impl.Circuit, bool)) {
	t.Helper()
	expectNew(t, name, impl.Gate{Kind: -8, A: -8, B: -8}, call)
}

func expectNewNumbers(t *testing.T, name string, call func() []int) {
	t.Helper()
	expectNew(t, name, -8, func() ([]int, bool) { return call(), true })
}

func TestCircuitsShareNoMemory(t *testing.T) {
	junk := impl.Gate{Kind: -7, A: -7, B: -7}
	full := impl.Circuit{unknownGate(0), unknownGate(1), sumGate(0, 1), productGate(2, 2), junk, junk, junk, junk, junk, junk}
	c := full[:4]
	before := slices.Clone(full)
	terms := impl.Poly{{Powers: powers{1, 0, 0}, Times: 2}, {Times: 1}, {Times: -7}}
	f := terms[:2]
	calls := map[string]func() (impl.Circuit, bool){
		"ParseCircuit":                func() (impl.Circuit, bool) { return impl.ParseCircuit(5, "x;y;+0 1") },
		"PruneCircuit":                func() (impl.Circuit, bool) { return impl.PruneCircuit(5, c) },
		"PruneCircuit of one gate":    func() (impl.Circuit, bool) { return impl.PruneCircuit(5, c[:2]) },
		"JoinCircuits":                func() (impl.Circuit, bool) { return impl.JoinCircuits(5, c, c, impl.GateSum) },
		"JoinCircuits of parts of it": func() (impl.Circuit, bool) { return impl.JoinCircuits(5, c[:1], c[:2], impl.GateProduct) },
		"CircuitOf":                   func() (impl.Circuit, bool) { return impl.CircuitOf(5, f) },
		"CircuitOf 0":                 func() (impl.Circuit, bool) { return impl.CircuitOf(5, f[:0]) },
	}
	for name, call := range calls {
		expectNewCircuits(t, name, call)
	}
	numbers := map[string]func() []int{
		"EvalGates": func() []int { return impl.EvalGates(5, c, [3]int{1, 2, 3}) },
		"UsedGates": func() []int { return impl.UsedGates(5, c) },
	}
	for name, call := range numbers {
		expectNewNumbers(t, name, call)
	}
	result, _ := impl.PolyOfCircuit(5, c)
	for i := range result[:cap(result)] {
		result[:cap(result)][i] = impl.Term{Times: -8}
	}
	again, ok := impl.PolyOfCircuit(5, c)
	expectPoly(t, "PolyOfCircuit", again, ok, read(t, 5, "x2+2xy+y2"))
	impl.FormatCircuit(5, c)
	impl.CostOf(5, c)
	impl.DepthOf(5, c)
	impl.FormalDegree(5, c)
	if !slices.Equal(full, before) || terms[2].Times != -7 || terms[0].Times != 2 || terms[1].Times != 1 {
		t.Errorf("an argument has changed: %v, %v", full, terms)
	}
}
