package tests

import (
	"math/big"
	"slices"
	"strconv"
	"strings"
	"testing"

	"loop.example/polycircuits/impl"
)

// elementSigns are the signs of the elements, in their order.
const elementSigns = "0123456789ABC"

// leafSigns returns the signs of the unknowns and elements of a field.
func leafSigns(p int) string {
	return "xyz" + elementSigns[:p]
}

// isFormulaText tells whether a text is a formula by counting the formulas
// that are missing: a sign of a sum or product brings one more.
func isFormulaText(p int, s string) bool {
	missing := 1
	for i := range len(s) {
		switch {
		case missing == 0:
			return false
		case s[i] == '+' || s[i] == '*':
			missing++
		case strings.IndexByte(leafSigns(p), s[i]) >= 0:
			missing--
		default:
			return false
		}
	}
	return missing == 0 && len(s) <= 60
}

// halves returns both formulas of a sum or product.
func halves(s string) (string, string) {
	missing := 1
	for i := 1; ; i++ {
		if s[i] == '+' || s[i] == '*' {
			missing++
		} else if missing--; missing == 0 {
			return s[1 : i+1], s[i+1:]
		}
	}
}

// partsOf returns all parts of a formula, each one behind its own parts.
func partsOf(s string) []string {
	if len(s) == 1 {
		return []string{s}
	}
	first, second := halves(s)
	return append(append(partsOf(first), partsOf(second)...), s)
}

// formulaValue goes through a formula from its end, with the values of what is
// behind on a stack.
func formulaValue(p int, s string, at [3]int) int {
	var values []int
	for i := len(s) - 1; i >= 0; i-- {
		if v := strings.IndexByte("xyz", s[i]); v >= 0 {
			values = append(values, at[v])
			continue
		}
		if a := strings.IndexByte(elementSigns, s[i]); a >= 0 {
			values = append(values, a)
			continue
		}
		n := len(values) - 2
		result := values[n] + values[n+1]
		if s[i] == '*' {
			result = values[n] * values[n+1]
		}
		values = append(values[:n], remainder(p, result))
	}
	return values[0]
}

// formulaPoly returns the polynomial of a formula, made of plain ones; false
// if it or one of its parts has none within the limits.
func formulaPoly(p int, s string) (impl.Poly, bool) {
	known := map[string]impl.Poly{}
	for _, part := range partsOf(s) {
		result := plain{}
		switch {
		case strings.Contains("xyz", part):
			var k powers
			k[strings.Index("xyz", part)] = 1
			result[k] = 1
		case strings.Contains(elementSigns, part):
			result[powers{}] = strings.Index(elementSigns, part)
		default:
			first, second := halves(part)
			f, g := plainOf(known[first]), plainOf(known[second])
			if result = f.plus(g); part[0] == '*' {
				result = f.times(g)
			}
		}
		f, ok := result.over(p)
		if !ok {
			return nil, false
		}
		known[part] = f
	}
	return known[s], true
}

// shownFormula returns a formula in the usual form.
func shownFormula(s string) string {
	if len(s) == 1 {
		if a := strings.Index(elementSigns, s); a >= 0 {
			return strconv.Itoa(a)
		}
		return s
	}
	first, second := halves(s)
	return "(" + shownFormula(first) + " " + s[:1] + " " + shownFormula(second) + ")"
}

// formulaGates returns the text of the circuit of a formula: parts are one
// gate exactly if they are the same text.
func formulaGates(s string) string {
	var parts, gates []string
	for _, part := range partsOf(s) {
		if slices.Contains(parts, part) {
			continue
		}
		parts = append(parts, part)
		if a := strings.Index(elementSigns, part); a >= 0 {
			part = strconv.Itoa(a)
		} else if len(part) > 1 {
			first, second := halves(part)
			part = part[:1] + strconv.Itoa(slices.Index(parts, first)) + " " + strconv.Itoa(slices.Index(parts, second))
		}
		gates = append(gates, part)
	}
	return strings.Join(gates, ";")
}

// spreadSize returns the length of the formula of a circuit, which is cut at the end alone.
func spreadSize(c impl.Circuit) int {
	var sizes []*big.Int
	for _, g := range c {
		size := big.NewInt(1)
		if isJoining(g) {
			size.Add(size, sizes[g.A])
			size.Add(size, sizes[g.B])
		}
		sizes = append(sizes, size)
	}
	if last := sizes[len(c)-1]; last.Cmp(big.NewInt(1000)) < 0 {
		return int(last.Int64())
	}
	return 1000
}

// spreadText returns the formula of a gate as the whole tree above it.
func spreadText(c impl.Circuit, i int) string {
	switch g := c[i]; g.Kind {
	case impl.GateInput:
		return []string{"x", "y", "z"}[g.A]
	case impl.GateConst:
		return strings.Split(elementSigns, "")[g.A]
	case impl.GateSum:
		return "+" + spreadText(c, g.A) + spreadText(c, g.B)
	case impl.GateProduct:
		return "*" + spreadText(c, g.A) + spreadText(c, g.B)
	}
	panic("no kind of a gate")
}

// formula returns a formula with as many sums and products.
func (d *draw) formula(p int, joined int) string {
	if joined == 0 {
		signs := "xyz"
		if d.below(3) == 0 {
			signs = leafSigns(p)
		}
		i := d.below(len(signs))
		return signs[i : i+1]
	}
	first := d.below(joined)
	return []string{"+", "*"}[d.below(2)] + d.formula(p, first) + d.formula(p, joined-1-first)
}

// repeating returns a formula of which many parts are equal, as it is made of
// formulas that are made of each other.
func (d *draw) repeating(p int) string {
	made := []string{d.formula(p, 0), d.formula(p, d.below(3))}
	for {
		a, b := made[len(made)-1], made[d.below(len(made))]
		if d.below(2) == 0 {
			a, b = b, a
		}
		s := []string{"+", "*", "*"}[d.below(3)] + a + b
		if len(s) > 60 {
			return made[len(made)-1]
		}
		made = append(made, s)
	}
}

// formulas returns formulas of all lengths, of which some have many equal parts.
func (d *draw) formulas(p int) []string {
	var list []string
	for n := range 150 {
		list = append(list, d.formula(p, n%30), d.repeating(p))
	}
	return list
}

// expectNoFormula checks all functions for a text that is no formula over the field of p.
func expectNoFormula(t *testing.T, p int, s string) {
	t.Helper()
	if impl.FormulaValid(p, s) {
		t.Errorf("FormulaValid(%d, %q) = true", p, s)
	}
	for _, at := range [][3]int{{0, 0, 0}, {1, 1, 1}, {-1, -1, -1}} {
		if got := impl.EvalFormula(p, s, at); got != -1 {
			t.Errorf("EvalFormula(%d, %q, %v) = %d, want -1", p, s, at, got)
		}
	}
	f, ok := impl.PolyOfFormula(p, s)
	expectNone(t, "PolyOfFormula "+strconv.Quote(s), f, ok)
	if got := impl.LeavesOf(p, s); got != -1 {
		t.Errorf("LeavesOf(%d, %q) = %d, want -1", p, s, got)
	}
	if got := impl.ShowFormula(p, s); got != "" {
		t.Errorf("ShowFormula(%d, %q) = %q", p, s, got)
	}
	c, ok := impl.CircuitOfFormula(p, s)
	expectNoCircuit(t, "CircuitOfFormula "+strconv.Quote(s), c, ok)
}

// expectFormula checks all functions for a formula, and that its circuit has the same polynomial.
func expectFormula(t *testing.T, p int, s string, at [3]int) {
	t.Helper()
	if !impl.FormulaValid(p, s) {
		t.Errorf("FormulaValid(%d, %q) = false", p, s)
		return
	}
	value := formulaValue(p, s, at)
	if got := impl.EvalFormula(p, s, at); got != value {
		t.Errorf("EvalFormula(%d, %q, %v) = %d, want %d", p, s, at, got, value)
	}
	if got, want := impl.LeavesOf(p, s), len(s)-strings.Count(s, "+")-strings.Count(s, "*"); got != want {
		t.Errorf("LeavesOf(%d, %q) = %d, want %d", p, s, got, want)
	}
	if got, want := impl.ShowFormula(p, s), shownFormula(s); got != want {
		t.Errorf("ShowFormula(%d, %q) = %q, want %q", p, s, got, want)
	}
	c, ok := impl.CircuitOfFormula(p, s)
	if got, want := impl.FormatCircuit(p, c), formulaGates(s); got != want || !ok {
		t.Errorf("CircuitOfFormula(%d, %q) = %q, %v, want %q", p, s, got, ok, want)
		return
	}
	if values := impl.EvalGates(p, c, at); values[len(c)-1] != value {
		t.Errorf("the circuit of %q over %d has the value %d at %v, want %d", s, p, values[len(c)-1], at, value)
	}
	expectFormulaPoly(t, p, s, c)
	if got, ok := impl.FormulaOfCircuit(p, c); got != s || !ok {
		t.Errorf("FormulaOfCircuit(%d, %v) = %q, %v, want %q", p, c, got, ok, s)
	}
	if got := impl.SpreadSize(p, c); got != len(s) {
		t.Errorf("SpreadSize(%d, %v) = %d, want %d", p, c, got, len(s))
	}
}

// expectFormulaPoly checks the polynomials of a formula and of its circuit.
func expectFormulaPoly(t *testing.T, p int, s string, c impl.Circuit) {
	t.Helper()
	f, isPoly := impl.PolyOfFormula(p, s)
	g, ok := impl.PolyOfCircuit(p, c)
	if want, hasPoly := formulaPoly(p, s); hasPoly {
		expectPoly(t, "PolyOfFormula "+s, f, isPoly, want)
		expectPoly(t, "PolyOfCircuit of CircuitOfFormula "+s, g, ok, want)
	} else {
		expectNone(t, "PolyOfFormula "+s, f, isPoly)
		expectNone(t, "PolyOfCircuit of CircuitOfFormula "+s, g, ok)
	}
}

func TestFormulasOfOneByte(t *testing.T) {
	if impl.MaxFormula != 60 {
		t.Errorf("MaxFormula = %d", impl.MaxFormula)
	}
	for _, p := range primes {
		for n := range 256 {
			s := string([]byte{byte(n)})
			if strings.Contains(leafSigns(p), s) {
				expectFormula(t, p, s, [3]int{1, p - 1, p / 2})
			} else {
				expectNoFormula(t, p, s)
			}
		}
		for a := range p {
			s := elementSigns[a : a+1]
			if got := impl.EvalFormula(p, s, [3]int{}); got != a {
				t.Errorf("EvalFormula(%d, %q) = %d, want %d", p, s, got, a)
			}
			f, ok := impl.PolyOfFormula(p, s)
			expectPlain(t, "PolyOfFormula "+s, p, f, ok, plain{powers{}: a})
			c, ok := impl.CircuitOfFormula(p, s)
			expectCircuit(t, "CircuitOfFormula "+s, c, ok, impl.Circuit{constGate(a)})
			if got, ok := impl.FormulaOfCircuit(p, c); got != s || !ok {
				t.Errorf("FormulaOfCircuit(%d, %v) = %q, %v", p, c, got, ok)
			}
		}
		for v, s := range []string{"x", "y", "z"} {
			f, ok := impl.PolyOfFormula(p, s)
			expectPoly(t, "PolyOfFormula "+s, f, ok, line(v, 1, 1))
			c, ok := impl.CircuitOfFormula(p, s)
			expectCircuit(t, "CircuitOfFormula "+s, c, ok, impl.Circuit{unknownGate(v)})
		}
	}
}

func TestElementsAbove9(t *testing.T) {
	known := []struct {
		p                    int
		text, shown, circuit string
		value                int
	}{
		{11, "A", "10", "10", 10},
		{11, "*AA", "(10 * 10)", "10;*0 0", 1},
		{11, "+A1", "(10 + 1)", "10;1;+0 1", 0},
		{13, "A", "10", "10", 10},
		{13, "B", "11", "11", 11},
		{13, "C", "12", "12", 12},
		{13, "+AB", "(10 + 11)", "10;11;+0 1", 8},
		{13, "*B+CA", "(11 * (12 + 10))", "11;12;10;+1 2;*0 3", 8},
		{13, "*+CxC", "((12 + x) * 12)", "12;x;+0 1;*2 0", 12},
	}
	for _, k := range known {
		at := [3]int{2, 3, 4}
		expectFormula(t, k.p, k.text, at)
		if got := impl.ShowFormula(k.p, k.text); got != k.shown {
			t.Errorf("ShowFormula(%d, %q) = %q, want %q", k.p, k.text, got, k.shown)
		}
		if got := impl.EvalFormula(k.p, k.text, at); got != k.value {
			t.Errorf("EvalFormula(%d, %q, %v) = %d, want %d", k.p, k.text, at, got, k.value)
		}
		want := readCircuit(t, k.p, k.circuit)
		got, ok := impl.CircuitOfFormula(k.p, k.text)
		expectCircuit(t, "CircuitOfFormula "+k.text, got, ok, want)
		if got, ok := impl.FormulaOfCircuit(k.p, want); got != k.text || !ok {
			t.Errorf("FormulaOfCircuit(%d, %s) = %q, %v, want %q", k.p, k.circuit, got, ok, k.text)
		}
	}
	for _, s := range []string{"A", "B", "C", "+xA", "*Bx", "+1C", "a", "b", "c", "D", "+xa", "10", "*x10", "+11x"} {
		for _, p := range []int{2, 3, 5, 7} {
			expectNoFormula(t, p, s)
		}
	}
	for _, s := range []string{"B", "C", "D", "+AB", "*Cx", "a", "+xa", "10"} {
		expectNoFormula(t, 11, s)
	}
	for _, s := range []string{"D", "a", "b", "c", "+ab", "*cx", "10", "11", "12", "*x12"} {
		expectNoFormula(t, 13, s)
	}
}

func TestTextsOfNoFormulas(t *testing.T) {
	texts := []string{
		"", " ", " x", "x ", "xx", "xy", "x1", "1x", "00", "01", "-1", "-x", "-x1", "/x1", "X", "Y", "w", "a", "5", "9", "+", "*", "++", "+*", "+x", "*1", "+5x", "+x5", "+xw", "+wx",
		"++xx", "*+xy", "+x*", "+x*y", "+x1y", "*xy+", "+xyz", "*+xy+xyz", "*+xy+x", "x+1", "x+", "(x)", "(x + 1)", "+(x1)", "+ x1", "+x 1", "+x1 ", " +x1", "+x,1", "+x1\n", "+x\t1", "x2", "*x10",
		"\x00", "x\x00", "\x00x", "+x\x00", "+\x00x1", "\xff", "x\xff", "\xffx", "+x\xff", "+x1\xff", "\xc3", "+\xc31", "²", "x²", "\u0178", "\u0130", "\u012bx1", "\u212a", "ｘ", "٣", "+x\u0661", "x\u0301", "\u200bx", "\ufffd", "+x\ufffd", "\U0001d465",
	}
	for _, s := range texts {
		expectNoFormula(t, 5, s)
	}
	long := []string{strings.Repeat("+", 100000), strings.Repeat("x", 100000), strings.Repeat("+x", 50000) + "x", strings.Repeat("*", 50000) + strings.Repeat("x", 50001), strings.Repeat("\xff", 100000)}
	for _, s := range long {
		expectNoFormula(t, 5, s)
	}
	for _, p := range noPrimes {
		for _, s := range []string{"", "0", "1", "x", "z", "+xy", "*+xy+xy"} {
			expectNoFormula(t, p, s)
		}
	}
}

func TestShortFormulas(t *testing.T) {
	for p, signs := range map[int]string{2: "xz012+*-", 13: "y9ACa+* "} {
		found := 0
		var longer func(s string)
		longer = func(s string) {
			if isFormulaText(p, s) {
				found++
				expectFormula(t, p, s, [3]int{1, 0, p - 1})
			} else {
				expectNoFormula(t, p, s)
			}
			for i := range len(signs) {
				if len(s) < 5 {
					longer(s + signs[i:i+1])
				}
			}
		}
		longer("")
		// Four leaves, two signs, and two shapes where there are two signs.
		if found != 4+2*4*4+2*2*2*4*4*4 {
			t.Errorf("over the field of %d, %d texts are formulas", p, found)
		}
	}
}

func TestChangedFormulas(t *testing.T) {
	const signs = "xyz0129ABCabc+*- "
	d := draw(30)
	found := 0
	for range 20000 {
		p := primes[d.below(len(primes))]
		s := d.formula(p, d.below(12))
		for range 1 + d.below(2) {
			place := d.below(len(s) + 1)
			end := min(len(s), place+d.below(2))
			begin := d.below(len(signs))
			s = s[:place] + signs[begin:begin+d.below(2)] + s[end:]
		}
		if isFormulaText(p, s) {
			found++
			expectFormula(t, p, s, [3]int{d.below(p), d.below(p), d.below(p)})
		} else {
			expectNoFormula(t, p, s)
		}
	}
	if found < 1000 || found > 19000 {
		t.Errorf("%d of the texts are formulas", found)
	}
}

// A formula has one leaf more than it has sums and products, so that no formula
// has just 60 bytes: the longest ones have 59.
func TestLongFormulas(t *testing.T) {
	for _, p := range primes {
		for n := 25; n < 35; n++ {
			texts := []string{
				strings.Repeat("+", n) + strings.Repeat("x", n+1),
				strings.Repeat("*", n) + strings.Repeat("1", n+1),
				strings.Repeat("+x", n) + "y",
				strings.Repeat("*1", n) + "z",
				strings.Repeat("+*zy", n/2) + strings.Repeat("+1", n%2) + "x",
			}
			for _, s := range texts {
				if n < 30 {
					expectFormula(t, p, s, [3]int{1, p - 1, 1})
				} else {
					expectNoFormula(t, p, s)
				}
				expectNoFormula(t, p, s+"x")
				expectNoFormula(t, p, "+"+s)
				expectNoFormula(t, p, s[1:])
				expectNoFormula(t, p, s[:len(s)-1])
			}
		}
	}
	s := strings.Repeat("+x", 29) + "x"
	if len(s) != 59 || impl.LeavesOf(7, s) != 30 || impl.EvalFormula(7, s, [3]int{3, 0, 0}) != 6 {
		t.Errorf("LeavesOf, EvalFormula of 30 times x = %d, %d", impl.LeavesOf(7, s), impl.EvalFormula(7, s, [3]int{3, 0, 0}))
	}
}

func TestFormulasAreWhatTheyShow(t *testing.T) {
	known := []struct {
		p                          int
		text, shown, poly, circuit string
		leaves                     int
	}{
		{5, "x", "x", "x", "x", 1},
		{5, "0", "0", "0", "0", 1},
		{5, "+xx", "(x + x)", "2x", "x;+0 0", 2},
		{2, "+xx", "(x + x)", "0", "x;+0 0", 2},
		{5, "*xx", "(x * x)", "x2", "x;*0 0", 2},
		{5, "+33", "(3 + 3)", "1", "3;+0 0", 2},
		{5, "*33", "(3 * 3)", "4", "3;*0 0", 2},
		{5, "+xy", "(x + y)", "x+y", "x;y;+0 1", 2},
		{5, "+yx", "(y + x)", "x+y", "y;x;+0 1", 2},
		{5, "*+xy+xy", "((x + y) * (x + y))", "x2+2xy+y2", "x;y;+0 1;*2 2", 4},
		{5, "*+xy+yx", "((x + y) * (y + x))", "x2+2xy+y2", "x;y;+0 1;+1 0;*2 3", 4},
		{5, "+*xy*xy", "((x * y) + (x * y))", "2xy", "x;y;*0 1;+2 2", 4},
		{5, "+*xy+xy", "((x * y) + (x + y))", "xy+x+y", "x;y;*0 1;+0 1;+2 3", 4},
		{5, "+x*xy", "(x + (x * y))", "xy+x", "x;y;*0 1;+0 2", 3},
		{5, "+*xyx", "((x * y) + x)", "xy+x", "x;y;*0 1;+2 0", 3},
		{5, "*0x", "(0 * x)", "0", "0;x;*0 1", 2},
		{5, "+z0", "(z + 0)", "z", "z;0;+0 1", 2},
		{5, "*+11+11", "((1 + 1) * (1 + 1))", "4", "1;+0 0;*1 1", 4},
		{5, "+*2x*2y", "((2 * x) + (2 * y))", "2x+2y", "2;x;*0 1;y;*0 3;+2 4", 4},
		{5, "*+*xxy+*xxy", "(((x * x) + y) * ((x * x) + y))", "x4+2x2y+y2", "x;*0 0;y;+1 2;*3 3", 6},
		{5, "+1+2+3+40", "(1 + (2 + (3 + (4 + 0))))", "0", "1;2;3;4;0;+3 4;+2 5;+1 6;+0 7", 5},
		{5, "++++12340", "((((1 + 2) + 3) + 4) + 0)", "0", "1;2;+0 1;3;+2 3;4;+4 5;0;+6 7", 5},
	}
	for _, k := range known {
		expectFormula(t, k.p, k.text, [3]int{1, 1, 1})
		if got := impl.ShowFormula(k.p, k.text); got != k.shown {
			t.Errorf("ShowFormula(%d, %q) = %q, want %q", k.p, k.text, got, k.shown)
		}
		if got := impl.LeavesOf(k.p, k.text); got != k.leaves {
			t.Errorf("LeavesOf(%d, %q) = %d, want %d", k.p, k.text, got, k.leaves)
		}
		f, ok := impl.PolyOfFormula(k.p, k.text)
		expectPoly(t, "PolyOfFormula "+k.text, f, ok, read(t, k.p, k.poly))
		c, ok := impl.CircuitOfFormula(k.p, k.text)
		expectCircuit(t, "CircuitOfFormula "+k.text, c, ok, readCircuit(t, k.p, k.circuit))
	}
}

// A formula and the circuit in which its equal parts are one have the same
// polynomial, and neither has one where the other has none.
func TestFormulasAndTheirCircuits(t *testing.T) {
	d := draw(31)
	for _, p := range primes {
		none, shared := 0, 0
		list := d.formulas(p)
		for _, s := range list {
			expectFormula(t, p, s, [3]int{d.below(p), d.below(p), d.below(p)})
			if _, ok := impl.PolyOfFormula(p, s); !ok {
				none++
			}
			c, _ := impl.CircuitOfFormula(p, s)
			if 2*len(c) < len(s) {
				shared++
			}
			if used := impl.UsedGates(p, c); len(used) != len(c) {
				t.Errorf("CircuitOfFormula(%d, %q) has gates that nothing uses: %v", p, s, c)
			}
		}
		if none < 10 || none > len(list)/2 || shared < 10 {
			t.Errorf("over the field of %d, %d of %d formulas have no polynomial, and %d circuits have less than half the size", p, none, len(list), shared)
		}
	}
}

// What a formula computes is the value of its polynomial.
func TestValuesOfFormulas(t *testing.T) {
	d := draw(32)
	for _, p := range []int{2, 3, 5} {
		for range 60 {
			s := d.formula(p, d.below(12))
			f, ok := impl.PolyOfFormula(p, s)
			for n := range p * p * p {
				at := [3]int{n / p / p, n / p % p, n % p}
				got, want := impl.EvalFormula(p, s, at), formulaValue(p, s, at)
				if got != want || ok && got != impl.EvalPoly(p, f, at) {
					t.Errorf("EvalFormula(%d, %q, %v) = %d, want %d, and %v has the value %d", p, s, at, got, want, f, impl.EvalPoly(p, f, at))
				}
			}
		}
	}
	known := map[string]int{"x": 2, "y": 4, "z": 1, "3": 3, "+xy": 1, "*xy": 3, "*+xy+xy": 1, "+*xyz": 4, "*x+yz": 0, "+x*yy": 3}
	for s, want := range known {
		if got := impl.EvalFormula(5, s, [3]int{2, 4, 1}); got != want {
			t.Errorf("EvalFormula(5, %q) = %d, want %d", s, got, want)
		}
	}
	for _, p := range primes {
		for _, n := range outsideOf(p) {
			for v, s := range []string{"x", "y", "z"} {
				var at [3]int
				at[v] = n
				for _, s := range []string{s, "0", "+11", "*0" + s} {
					if got := impl.EvalFormula(p, s, at); got != -1 {
						t.Errorf("EvalFormula(%d, %q, %v) = %d, want -1", p, s, at, got)
					}
				}
			}
		}
	}
}

// A formula has no polynomial if one of its parts has none, also where this is
// multiplied by 0 or taken away again.
func TestFormulasWithoutPoly(t *testing.T) {
	const tenth = "*x*x*x*x*x*x*x*x*xx" // x10
	for _, p := range primes {
		minus := elementSigns[p-1 : p]
		for _, s := range []string{tenth, "+" + tenth + "1", "*0" + tenth, "*" + tenth + "0", "+" + tenth + "*" + minus + tenth, "*" + tenth + "+1" + minus, "+y*0" + tenth, "+" + tenth + tenth, strings.Repeat("*", 9) + strings.Repeat("z", 10)} {
			f, ok := impl.PolyOfFormula(p, s)
			expectNone(t, "PolyOfFormula "+s, f, ok)
			expectFormula(t, p, s, [3]int{1, 1, 1})
		}
		ninths := map[string]string{
			tenth[2:]: "x9", "*y" + tenth[2:]: "x9y", "*" + tenth[2:] + "1": "x9", "*0" + tenth[2:]: "0", "+1" + tenth[2:]: "x9+1",
			strings.Repeat("*", 26) + strings.Repeat("x", 9) + strings.Repeat("y", 9) + strings.Repeat("z", 9): "x9y9z9",
		}
		for s, want := range ninths {
			f, ok := impl.PolyOfFormula(p, s)
			expectPoly(t, "PolyOfFormula "+s, f, ok, read(t, p, want))
			expectFormula(t, p, s, [3]int{1, 1, 1})
		}
	}
}

func TestFormulasWith60Terms(t *testing.T) {
	// The sum of the powers of x from 0 to 5, times that of those of y from 0 to 9.
	const product = "*+1*x+1*x+1*x+1*x+1x+1*y+1*y+1*y+1*y+1*y+1*y+1*y+1*y+1y"
	for _, p := range primes {
		f, ok := impl.PolyOfFormula(p, product)
		if expectFormulaPoly(t, p, product, readCircuit(t, p, formulaGates(product))); len(f) != 60 || !ok {
			t.Errorf("PolyOfFormula(%d, %q) has %d terms, %v", p, product, len(f), ok)
		}
		for _, s := range []string{"+z" + product, "+" + product + "z"} {
			expectFormula(t, p, s, [3]int{1, 1, 1})
			f, ok := impl.PolyOfFormula(p, s)
			expectNone(t, "PolyOfFormula with 61 terms", f, ok)
		}
		f, ok = impl.PolyOfFormula(p, "*z"+product)
		if len(f) != 60 || !ok {
			t.Errorf("PolyOfFormula of z times 60 terms has %d terms, %v", len(f), ok)
		}
	}
	// Over the field of 2 the same term twice is nothing, but not where 61 terms are on the way.
	f, ok := impl.PolyOfFormula(2, "+z+z"+product)
	expectNone(t, "PolyOfFormula with 61 terms on the way", f, ok)
	f, ok = impl.PolyOfFormula(2, "++zz"+product)
	want, _ := formulaPoly(2, product)
	expectPoly(t, "PolyOfFormula with 60 terms", f, ok, want)
}

func TestFormulaOfCircuit(t *testing.T) {
	// The formulas of the gates 0 to 8 have 1 to 511 bytes.
	const to511 = "x;+0 0;+1 1;+2 2;+3 3;+4 4;+5 5;+6 6;+7 7"
	const to59 = "x;+0 0;+1 1;+2 2;+3 3;*2 1;*3 5;*4 6"
	known := []struct {
		text, want string
		size       int
	}{
		{"x", "x", 1},
		{"z", "z", 1},
		{"4", "4", 1},
		{"x;y", "y", 1},
		{"x;+0 0", "+xx", 3},
		{"x;y;*1 0", "*yx", 3},
		{"x;y;*0 1;+2 0", "+*xyx", 5},
		{"x;y;+0 1;*2 2", "*+xy+xy", 7},
		{"x;x;+0 1;2;*3 2;y", "y", 1},
		{"x;2;*1 0;y;+3 2;z", "z", 1},
		{"x;2;*1 0;y;+3 2", "+y*2x", 5},
		{"x;*0 0;*1 1;*2 2;*3 3", "****xx*xx**xx*xx***xx*xx**xx*xx", 31},
		{to59, "*++++xx+xx++xx+xx+++xx+xx++xx+xx*+++xx+xx++xx+xx*++xx+xx+xx", 59},
		{to59 + ";+7 0", "", 61},
		{to59 + ";+0 7", "", 61},
		{to59 + ";+7 7;+8 8;+4 4", "", 63},
		{to59 + ";+7 7;+8 8;*1 0", "*+xxx", 5},
		{to511, "", 511},
		{to511 + ";+8 8", "", 1000},
		{to511 + ";+8 7", "", 767},
		{to511 + ";+8 7;+9 6;+10 5;+11 4", "", 991},
		{to511 + ";+8 7;+9 6;+10 5;+11 4;+12 1;+0 13", "", 997},
		{to511 + ";+8 7;+9 6;+10 5;+11 4;+12 2", "", 999},
		{to511 + ";+8 7;+9 6;+10 5;+11 4;+12 2;+13 0", "", 1000},
		{to511 + ";+8 7;+9 6;+10 5;+11 4;*2 12;*0 13", "", 1000},
		{to511 + ";+8 8;+9 9;+10 0", "", 1000},
		{to511 + ";+8 8;+9 9;y;*0 11", "*xy", 3},
	}
	for _, k := range known {
		c := readCircuit(t, 5, k.text)
		if got, ok := impl.FormulaOfCircuit(5, c); got != k.want || ok != (k.want != "") {
			t.Errorf("FormulaOfCircuit(5, %s) = %q, %v, want %q", k.text, got, ok, k.want)
		}
		if got := impl.SpreadSize(5, c); got != k.size {
			t.Errorf("SpreadSize(5, %s) = %d, want %d", k.text, got, k.size)
		}
	}
	for _, p := range primes {
		for _, kind := range []int{impl.GateSum, impl.GateProduct} {
			for n := range 60 {
				expectSpread(t, p, chain(kind, n))
			}
			c := append(chain(kind, 58), unknownGate(1))
			if got, ok := impl.FormulaOfCircuit(p, c); got != "y" || !ok || impl.SpreadSize(p, c) != 1 {
				t.Errorf("FormulaOfCircuit of 59 gates that nothing uses = %q, %v", got, ok)
			}
		}
	}
}

// expectSpread checks the formula of a circuit and its length, and returns whether there is one.
func expectSpread(t *testing.T, p int, c impl.Circuit) bool {
	t.Helper()
	size := spreadSize(c)
	if got := impl.SpreadSize(p, c); got != size {
		t.Errorf("SpreadSize(%d, %v) = %d, want %d", p, c, got, size)
	}
	want := ""
	if size <= 60 {
		want = spreadText(c, len(c)-1)
	}
	got, ok := impl.FormulaOfCircuit(p, c)
	if got != want || ok != (size <= 60) {
		t.Errorf("FormulaOfCircuit(%d, %v) = %q, %v, want %q", p, c, got, ok, want)
	}
	return ok
}

func TestFormulasOfDrawnCircuits(t *testing.T) {
	d := draw(33)
	short, long, great := 0, 0, 0
	for _, p := range primes {
		for n := range 400 {
			c := d.circuit(p, 1+n%12)
			for range n % 14 {
				c = append(c, impl.Gate{Kind: 2 + d.below(2), A: len(c) - 1, B: len(c) - 1 - d.below(min(len(c), 4))})
			}
			if !expectSpread(t, p, c) {
				if long++; impl.SpreadSize(p, c) == 1000 {
					great++
				}
				continue
			}
			short++
			s, _ := impl.FormulaOfCircuit(p, c)
			if !impl.FormulaValid(p, s) || len(s) != impl.SpreadSize(p, c) {
				t.Errorf("FormulaOfCircuit(%d, %v) = %q, which is no formula of this size", p, c, s)
			}
			f, isPoly := impl.PolyOfCircuit(p, c)
			if g, ok := impl.PolyOfFormula(p, s); ok != isPoly || !slices.Equal(f, g) {
				t.Errorf("PolyOfFormula(%d, %q) = %v, %v, and of the circuit it is %v, %v", p, s, g, ok, f, isPoly)
			}
			place := d.below(len(c))
			expectSpread(t, p, withSpare(c, place, d.spareGate(p, place)))
		}
		for range 100 {
			expectSpread(t, p, d.circuit(p, 20+d.below(41)))
		}
	}
	if short < 500 || long < 100 || great < 10 {
		t.Errorf("%d circuits have formulas, %d have none, and %d lengths are cut", short, long, great)
	}
}

func TestFormulasOfNoCircuits(t *testing.T) {
	expectNoSpread := func(p int, c impl.Circuit) {
		if got, ok := impl.FormulaOfCircuit(p, c); got != "" || ok {
			t.Errorf("FormulaOfCircuit(%d, %v) = %q, %v", p, c, got, ok)
		}
		if got := impl.SpreadSize(p, c); got != -1 {
			t.Errorf("SpreadSize(%d, %v) = %d, want -1", p, c, got)
		}
	}
	for _, p := range primes {
		for _, c := range noCircuits(p) {
			expectNoSpread(p, c)
		}
	}
	for _, p := range noPrimes {
		for _, c := range []impl.Circuit{nil, {{}}, {constGate(0)}, {constGate(1)}, {unknownGate(0), productGate(0, 0)}} {
			expectNoSpread(p, c)
		}
	}
}

func TestFormulasShareNoMemory(t *testing.T) {
	junk := impl.Gate{Kind: -7, A: -7, B: -7}
	full := impl.Circuit{unknownGate(0), unknownGate(1), sumGate(0, 1), productGate(2, 2), junk, junk, junk}
	before := slices.Clone(full)
	impl.FormulaOfCircuit(5, full[:4])
	impl.SpreadSize(5, full[:4])
	if !slices.Equal(full, before) {
		t.Errorf("an argument has changed: %v", full)
	}
	for _, s := range []string{"x", "3", "+xy", "*+xy+xy", "*+x1+y2"} {
		c, _ := impl.CircuitOfFormula(5, s)
		other, _ := impl.CircuitOfFormula(5, s)
		for i := range c[:cap(c)] {
			c[:cap(c)][i] = junk
		}
		again, ok := impl.CircuitOfFormula(5, s)
		expectCircuit(t, "CircuitOfFormula "+s, other, true, readCircuit(t, 5, formulaGates(s)))
		expectCircuit(t, "CircuitOfFormula "+s, again, ok, other)
		f, _ := impl.PolyOfFormula(5, s)
		another, _ := impl.PolyOfFormula(5, s)
		for i := range f[:cap(f)] {
			f[:cap(f)][i] = impl.Term{Times: -8}
		}
		third, ok := impl.PolyOfFormula(5, s)
		want, _ := formulaPoly(5, s)
		expectPoly(t, "PolyOfFormula "+s, another, true, want)
		expectPoly(t, "PolyOfFormula "+s, third, ok, want)
	}
}
