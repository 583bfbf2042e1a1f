package tests

import (
	"fmt"
	"math"
	"math/rand/v2"
	"slices"
	"testing"

	"loop.example/dataflow/impl"
)

func term(coef int, vars ...int) impl.Term {
	return impl.Term{Coef: coef, Vars: vars}
}

func poly(terms ...impl.Term) []impl.Term {
	return terms
}

func sameTerm(a impl.Term, b impl.Term) bool {
	return a.Coef == b.Coef && slices.Equal(a.Vars, b.Vars)
}

func expectPoly(t *testing.T, what string, got []impl.Term, want []impl.Term) {
	t.Helper()
	if !slices.EqualFunc(got, want, sameTerm) {
		t.Errorf("%s = %v, want %v", what, got, want)
	}
}

// polySum is the reference for sums of any number of lists of terms. It adds up the coefficients in a map.
func polySum(lists ...[]impl.Term) []impl.Term {
	terms := map[string]impl.Term{}
	for _, list := range lists {
		for _, each := range list {
			vars := slices.Sorted(slices.Values(each.Vars))
			key := fmt.Sprint(vars)
			terms[key] = term(terms[key].Coef+each.Coef, vars...)
		}
	}
	sum := poly()
	for _, each := range terms {
		if each.Coef != 0 {
			sum = append(sum, each)
		}
	}
	slices.SortFunc(sum, func(a impl.Term, b impl.Term) int { return slices.Compare(a.Vars, b.Vars) })
	return sum
}

// polyProduct is the reference for products.
func polyProduct(a []impl.Term, b []impl.Term) []impl.Term {
	var products []impl.Term
	for _, x := range a {
		for _, y := range b {
			products = append(products, term(x.Coef*y.Coef, slices.Concat(x.Vars, y.Vars)...))
		}
	}
	return polySum(products)
}

// polyMinus is the reference for differences.
func polyMinus(a []impl.Term, b []impl.Term) []impl.Term {
	return polySum(a, polyProduct(b, poly(term(-1))))
}

// isPolyByDefinition is the reference for ValidPoly.
func isPolyByDefinition(p []impl.Term) bool {
	if len(p) > 400 {
		return false
	}
	for i, each := range p {
		if len(each.Vars) > 6 || each.Coef == 0 || each.Coef > 1000000 || each.Coef < -1000000 {
			return false
		}
		for j, v := range each.Vars {
			if v < 0 || v > 299 || j > 0 && each.Vars[j-1] > v {
				return false
			}
		}
		if i > 0 && slices.Compare(p[i-1].Vars, each.Vars) >= 0 {
			return false
		}
	}
	return true
}

// ifPoly returns no terms for what is not a polynomial.
func ifPoly(p []impl.Term) []impl.Term {
	if !isPolyByDefinition(p) {
		return nil
	}
	return p
}

// randomPoly returns a short polynomial with coefficients of both signs, in few variables, so that terms meet.
func randomPoly(r *rand.Rand, degree int) []impl.Term {
	var terms []impl.Term
	for range r.IntN(8) {
		vars := make([]int, between(r, 0, degree))
		for i := range vars {
			vars[i] = []int{0, 1, 100, 299}[r.IntN(4)]
		}
		terms = append(terms, term(between(r, -3, 3), vars...))
	}
	return polySum(terms)
}

// variables returns the sum of the variables low..high, all with one coefficient.
func variables(low int, high int, coef int) []impl.Term {
	var p []impl.Term
	for v := low; v <= high; v++ {
		p = append(p, term(coef, v))
	}
	return p
}

// manyTerms returns a polynomial with the given number of terms, all of degree 2 and with one coefficient.
func manyTerms(n int, coef int) []impl.Term {
	var p []impl.Term
	for i := range n {
		p = append(p, term(coef, i/200, 50+i%200))
	}
	return p
}

// one is the polynomial 1.
func one() []impl.Term {
	return poly(term(1))
}

// invalidPolys has a list for each way not to be a polynomial.
func invalidPolys() map[string][]impl.Term {
	lists := map[string][]impl.Term{
		"too many terms":            manyTerms(impl.MaxTerms+1, 1),
		"terms descend":             poly(term(1, 2), term(1, 1)),
		"a longer term first":       poly(term(1, 1, 2), term(1, 1)),
		"the constant is last":      poly(term(1, 1), term(1)),
		"a term twice":              poly(term(1, 1, 2), term(2, 1, 2)),
		"the constant twice":        poly(term(1), term(2)),
		"terms by degree":           poly(term(1, 1), term(1, 2), term(1, 1, 1)),
		"variables descend":         poly(term(1, 2, 1)),
		"variables descend at last": poly(term(1, 1, 2, 2, 1)),
		"too many variables":        poly(term(1, repeated(impl.MaxDegree+1, 3)...)),
		"far too many variables":    poly(term(1, repeated(1000, 3)...)),
	}
	for _, v := range extremeNumbers(impl.MaxVar) {
		lists[fmt.Sprint("variable ", v)] = poly(term(1, v))
		lists[fmt.Sprint("variables with ", v)] = poly(term(1, slices.Sorted(slices.Values([]int{5, v}))...))
		lists[fmt.Sprint("variable in the last term ", v)] = polySum(poly(term(1, 5)), poly(term(1, v)))
	}
	for _, coef := range []int{0, impl.MaxWeight + 1, -impl.MaxWeight - 1, math.MaxInt, math.MinInt} {
		lists[fmt.Sprint("coefficient ", coef)] = poly(term(coef, 1))
		lists[fmt.Sprint("constant ", coef)] = poly(term(coef), term(1, 1))
		lists[fmt.Sprint("last coefficient ", coef)] = poly(term(1), term(coef, 1, 1))
	}
	return lists
}

func TestLimitsOfPolynomials(t *testing.T) {
	if impl.MaxTerms != 400 || impl.MaxDegree != 6 || impl.MaxVar != 299 || impl.VarsPerInput != 100 {
		t.Error("limits of polynomials")
	}
}

func TestP99ValidPolyIsTheDefinition(t *testing.T) {
	valid := [][]impl.Term{
		nil, poly(), one(), {{Coef: 1, Vars: []int{}}}, poly(term(-5)),
		poly(term(1), term(1, 0), term(1, 0, 0), term(-1, 0, 1), term(1, 1)),
		poly(term(impl.MaxWeight, 0), term(-impl.MaxWeight, impl.MaxVar)),
		poly(term(1, repeated(impl.MaxDegree, impl.MaxVar)...)),
		poly(term(1, 0, 0, 1, 1, 299, 299)),
		manyTerms(impl.MaxTerms, 1),
	}
	for _, p := range valid {
		expectBool(t, fmt.Sprint("ValidPoly ", p), impl.ValidPoly(p), true)
	}
	for name, p := range invalidPolys() {
		expectBool(t, "ValidPoly: "+name, impl.ValidPoly(p), false)
	}
	lists := [][]int{{}, {0}, {0, 0}, {0, 1}, {1, 0}, {1}, {1, 1}, {2}}
	for _, a := range lists {
		for _, b := range lists {
			for _, c := range lists {
				for coef := -1; coef <= 1; coef++ {
					p := poly(term(1, a...), term(coef, b...), term(2, c...))
					expectBool(t, fmt.Sprint("ValidPoly ", p), impl.ValidPoly(p), isPolyByDefinition(p))
				}
			}
		}
	}
}

func TestP99PolynomialsAreAGroup(t *testing.T) {
	r := newRandom()
	for range 5000 {
		a, b, c := randomPoly(r, impl.MaxDegree), randomPoly(r, impl.MaxDegree), randomPoly(r, 2)
		what := fmt.Sprintf("PolyAdd(%v, %v)", a, b)
		sum := impl.PolyAdd(a, b)
		expectPoly(t, what, sum, polySum(a, b))
		expectPoly(t, what+" exchanged", impl.PolyAdd(b, a), sum)
		expectBool(t, "ValidPoly of "+what, impl.ValidPoly(sum), true)
		expectPoly(t, what+" and a third one", impl.PolyAdd(sum, c), impl.PolyAdd(a, impl.PolyAdd(b, c)))
		expectPoly(t, fmt.Sprint("PolyAdd of nothing and ", a), impl.PolyAdd(nil, a), a)
		expectPoly(t, fmt.Sprint("PolyAdd of nothing to ", a), impl.PolyAdd(a, poly()), a)
		expectPoly(t, fmt.Sprint("PolyAdd of the opposite to ", a), impl.PolyAdd(a, polyMinus(nil, a)), nil)
	}
	expectPoly(t, "PolyAdd of nothing", impl.PolyAdd(nil, nil), nil)
}

func TestP99GivenSums(t *testing.T) {
	cases := []struct {
		a, b, want []impl.Term
	}{
		{one(), one(), poly(term(2))},
		{one(), poly(term(-1)), nil},
		{one(), poly(term(1, 0)), poly(term(1), term(1, 0))},
		{poly(term(1, 0)), one(), poly(term(1), term(1, 0))},
		{poly(term(1, 1)), poly(term(1, 0, 5)), poly(term(1, 0, 5), term(1, 1))},
		{poly(term(1, 0), term(1, 0, 0)), poly(term(-1, 0), term(3, 0, 0), term(1, 0, 1)), poly(term(4, 0, 0), term(1, 0, 1))},
		{poly(term(999999, 7)), poly(term(1, 7)), poly(term(1000000, 7))},
		{poly(term(-999999, 7)), poly(term(-1, 7)), poly(term(-1000000, 7))},
		{poly(term(1000000, 7)), poly(term(-1000000, 7)), nil},
		{poly(term(1, 3), term(1000000, 7)), poly(term(1, 7)), nil},
		{poly(term(1, 3), term(-1000000, 7)), poly(term(-1, 7)), nil},
		{manyTerms(400, 1), manyTerms(400, 2), manyTerms(400, 3)},
		{manyTerms(399, 1), one(), polySum(manyTerms(399, 1), one())},
		{manyTerms(400, 1), one(), nil},
		{manyTerms(400, 1), polySum(poly(term(-1, 0, 50)), one()), polySum(manyTerms(400, 1), poly(term(-1, 0, 50)), one())},
		{variables(0, 199, 1), manyTerms(200, 1), polySum(variables(0, 199, 1), manyTerms(200, 1))},
		{variables(0, 200, 1), manyTerms(200, 1), nil},
	}
	for _, c := range cases {
		expectPoly(t, fmt.Sprintf("PolyAdd(%v, %v)", c.a, c.b), impl.PolyAdd(c.a, c.b), c.want)
		expectPoly(t, fmt.Sprintf("PolyAdd(%v, %v)", c.b, c.a), impl.PolyAdd(c.b, c.a), c.want)
	}
}

func TestP99P100InvalidPolynomials(t *testing.T) {
	for name, bad := range invalidPolys() {
		for _, p := range [][]impl.Term{nil, one(), poly(term(2, 0)), bad} {
			expectPoly(t, "PolyAdd, first: "+name, impl.PolyAdd(bad, p), nil)
			expectPoly(t, "PolyAdd, last: "+name, impl.PolyAdd(p, bad), nil)
			expectPoly(t, "PolyMul, first: "+name, impl.PolyMul(bad, p), nil)
			expectPoly(t, "PolyMul, last: "+name, impl.PolyMul(p, bad), nil)
		}
	}
}

func TestP100MultiplicationIsCommutativeAndDistributive(t *testing.T) {
	r := newRandom()
	for range 5000 {
		a, b, c := randomPoly(r, 2), randomPoly(r, 2), randomPoly(r, 2)
		what := fmt.Sprintf("PolyMul(%v, %v)", a, b)
		product := impl.PolyMul(a, b)
		expectPoly(t, what, product, polyProduct(a, b))
		expectPoly(t, what+" exchanged", impl.PolyMul(b, a), product)
		expectBool(t, "ValidPoly of "+what, impl.ValidPoly(product), true)
		expectPoly(t, what+" and a third one", impl.PolyMul(product, c), impl.PolyMul(a, impl.PolyMul(b, c)))
		expectPoly(t, fmt.Sprint("PolyMul of 1 and ", a), impl.PolyMul(one(), a), a)
		expectPoly(t, fmt.Sprint("PolyMul with 1 of ", a), impl.PolyMul(a, poly(impl.Term{Coef: 1, Vars: []int{}})), a)
		expectPoly(t, fmt.Sprint("PolyMul of nothing and ", a), impl.PolyMul(nil, a), nil)
		expectPoly(t, fmt.Sprint("PolyMul with nothing of ", a), impl.PolyMul(a, nil), nil)
		expectPoly(t, what+" with a sum", impl.PolyMul(a, impl.PolyAdd(b, c)), impl.PolyAdd(product, impl.PolyMul(a, c)))
	}
}

func TestP100ProductsAreNoPolynomialsAboveTheDegree(t *testing.T) {
	r := newRandom()
	tooHigh := 0
	for range 3000 {
		a, b := randomPoly(r, 5), randomPoly(r, 5)
		product := polyProduct(a, b)
		expectPoly(t, fmt.Sprintf("PolyMul(%v, %v)", a, b), impl.PolyMul(a, b), ifPoly(product))
		if !isPolyByDefinition(product) {
			tooHigh++
		}
	}
	if tooHigh < 500 || tooHigh > 2500 {
		t.Errorf("%d products are no polynomials", tooHigh)
	}
}

func TestP100GivenProducts(t *testing.T) {
	x, y := variables(0, 0, 1), variables(1, 1, 1)
	xAndY, xMinusY := polySum(x, y), polyMinus(x, y)
	s, u := variables(0, 17, 1), variables(100, 117, 1)
	cases := []struct {
		a, b, want []impl.Term
	}{
		{one(), one(), one()},
		{poly(term(-2)), poly(term(3)), poly(term(-6))},
		{x, x, poly(term(1, 0, 0))},
		{y, x, poly(term(1, 0, 1))},
		{xAndY, xAndY, poly(term(1, 0, 0), term(2, 0, 1), term(1, 1, 1))},
		{xAndY, xMinusY, poly(term(1, 0, 0), term(-1, 1, 1))},
		{poly(term(1), term(1, 0)), poly(term(1), term(1, 1)), poly(term(1), term(1, 0), term(1, 0, 1), term(1, 1))},
		{poly(term(1, 0, 2, 299)), poly(term(1, 1, 2, 3)), poly(term(1, 0, 1, 2, 2, 3, 299))},
		{poly(term(1, 0, 0, 0)), poly(term(1, 0, 0, 0, 0)), nil},
		{poly(term(1), term(1, 0, 0, 0, 0, 0, 0)), poly(term(1), term(1, 1)), nil},
		{poly(term(1, 0, 0, 0, 0, 0, 0)), one(), poly(term(1, 0, 0, 0, 0, 0, 0))},
		{poly(term(1000, 0)), poly(term(1000, 1)), poly(term(1000000, 0, 1))},
		{poly(term(1000, 0)), poly(term(1), term(1001, 1)), nil},
		{poly(term(-1000, 0)), poly(term(1), term(1001, 1)), nil},
		{poly(term(1000000, 0)), poly(term(1000000, 1)), nil},
		{poly(term(1000, 0), term(1000, 1)), poly(term(1000, 0), term(-1000, 1)), poly(term(1000000, 0, 0), term(-1000000, 1, 1))},
		{poly(term(1000, 0), term(1000, 1)), poly(term(1000, 0), term(1000, 1)), nil},
		// A product of two terms is out of range, and another one makes up for it.
		{poly(term(1000, 0), term(1001, 0, 0)), poly(term(1000, 0), term(-999, 0, 0)), poly(term(1000000, 0, 0), term(2000, 0, 0, 0), term(-999999, 0, 0, 0, 0))},
		{variables(0, 19, 1), variables(100, 119, 1), polyProduct(variables(0, 19, 1), variables(100, 119, 1))},
		{variables(0, 19, 1), variables(100, 120, 1), nil},
		{variables(0, 19, -1), variables(100, 120, 1), nil},
		{variables(0, 19, 7), variables(100, 120, -7), nil},
		{variables(0, 26, 1), variables(0, 26, 1), polyProduct(variables(0, 26, 1), variables(0, 26, 1))},
		{variables(0, 27, 1), variables(0, 27, 1), nil},
		{variables(0, 27, 1), variables(0, 27, -1), nil},
		{manyTerms(400, 1), one(), manyTerms(400, 1)},
		{manyTerms(400, 1), x, polyProduct(manyTerms(400, 1), x)},
		{manyTerms(400, 1), polySum(one(), x), nil},
		{manyTerms(400, 1), manyTerms(400, 1), nil},
		// There are too many terms on the way, before the products of s and u cancel out.
		{polySum(s, u), polyMinus(s, u), polyMinus(polyProduct(s, s), polyProduct(u, u))},
	}
	for _, c := range cases {
		expectPoly(t, fmt.Sprintf("PolyMul(%v, %v)", c.a, c.b), impl.PolyMul(c.a, c.b), ifPoly(c.want))
		expectPoly(t, fmt.Sprintf("PolyMul(%v, %v)", c.b, c.a), impl.PolyMul(c.b, c.a), ifPoly(c.want))
	}
	if len(polyProduct(s, s)) != 171 || len(polyProduct(variables(0, 26, 1), variables(0, 26, 1))) != 378 {
		t.Error("the sizes of the cases are not those that they are meant to have")
	}
}

// polyValue is the reference for PolyEval.
func polyValue(p []impl.Term, inputs [][]impl.Entry) int {
	sum := 0
	for _, each := range p {
		product := each.Coef
		for _, v := range each.Vars {
			if v/100 >= len(inputs) || v%100 >= len(inputs[v/100]) {
				product = 0
			} else {
				product *= inputs[v/100][v%100].Weight
			}
		}
		sum += product
	}
	return sum
}

func expectValue(t *testing.T, what string, p []impl.Term, inputs [][]impl.Entry, want int) {
	t.Helper()
	if got := impl.PolyEval(p, inputs); got != want {
		t.Errorf("PolyEval(%v, %v): %s = %d, want %d", p, inputs, what, got, want)
	}
}

// randomInputs returns small inputs with entries for some of the variables of randomPoly.
func randomInputs(r *rand.Rand) [][]impl.Entry {
	zs := [][]impl.Entry{numbered(0, 1, 1), numbered(5, 5, 2), numbered(1, 100, 1)}[:r.IntN(4)]
	for i := range zs {
		for j := range zs[i] {
			zs[i][j].Weight = []int{between(r, 1, 9), -between(r, 1, 9)}[r.IntN(2)]
		}
	}
	return zs
}

func TestP101EvaluationIsAHomomorphism(t *testing.T) {
	r := newRandom()
	notZero := 0
	for range 5000 {
		a, b, zs := randomPoly(r, 3), randomPoly(r, 3), randomInputs(r)
		ofA, ofB := polyValue(a, zs), polyValue(b, zs)
		expectValue(t, "alone", a, zs, ofA)
		expectValue(t, "the sum", impl.PolyAdd(a, b), zs, ofA+ofB)
		expectValue(t, "the product", impl.PolyMul(a, b), zs, ofA*ofB)
		if ofA*ofB != 0 {
			notZero++
		}
	}
	if notZero < 1000 {
		t.Errorf("only %d products are not 0", notZero)
	}
}

func TestP101GivenValues(t *testing.T) {
	zs := inputs(zset(entry(2, 1, 5), entry(-3, 1, 6)), nil, zset(entry(5, 7)))
	cases := []struct {
		p    []impl.Term
		want int
	}{
		{nil, 0},
		{one(), 1},
		{poly(term(-7)), -7},
		{poly(term(1, 0)), 2},
		{poly(term(1, 1)), -3},
		{poly(term(1, 2)), 0},
		{poly(term(1, 99)), 0},
		{poly(term(1, 100)), 0},
		{poly(term(1, 200)), 5},
		{poly(term(1, 201)), 0},
		{poly(term(1, 299)), 0},
		{poly(term(1, 0, 0, 0)), 8},
		{poly(term(10, 0, 1, 200)), -300},
		{poly(term(10, 0, 1, 100)), 0},
		{poly(term(1), term(10, 0, 1, 100), term(4, 1, 1)), 37},
	}
	for _, c := range cases {
		expectValue(t, "given", c.p, zs, c.want)
	}
	for _, none := range [][][]impl.Entry{nil, inputs(), inputs(nil), inputs(nil, nil, nil)} {
		expectValue(t, "the polynomial 1 without entries", one(), none, 1)
		expectValue(t, "the polynomial 3 without entries", poly(term(3), term(5, 0)), none, 3)
		expectValue(t, "a variable without an entry", poly(term(5, 0)), none, 0)
	}
	var largest []impl.Term
	for i := range impl.MaxTerms {
		largest = append(largest, term(impl.MaxWeight, 0, 0, i/20/20, i/20%20, 50, 50+i%20))
	}
	z := numbered(1, impl.VarsPerInput, 9)
	expectValue(t, "the largest value", largest, inputs(z), 400*1000000*9*9*9*9*9*9)
	expectValue(t, "the smallest value", polyProduct(largest, poly(term(-1))), inputs(z), -400*1000000*9*9*9*9*9*9)
}

func TestP101SmallInputs(t *testing.T) {
	first := poly(term(1, 0))
	for _, weight := range []int{-9, -8, -1, 1, 8, 9} {
		expectValue(t, "the weight of the first", first, inputs(zset(entry(weight, 4))), weight)
		expectValue(t, "the weight of another one", first, inputs(zset(entry(2, 4), entry(weight, 5))), 2)
		expectValue(t, "the weight in the last input", first, inputs(zset(entry(2, 4)), nil, zset(entry(weight, 5))), 2)
	}
	for _, weight := range []int{-10, 10, impl.MaxWeight, -impl.MaxWeight} {
		expectValue(t, "a weight that is not small", first, inputs(zset(entry(weight, 4))), 0)
		expectValue(t, "a weight of another one that is not small", first, inputs(zset(entry(2, 4), entry(weight, 5))), 0)
		expectValue(t, "a weight in the last input that is not small", first, inputs(zset(entry(2, 4)), nil, zset(entry(weight, 5))), 0)
		expectValue(t, "the polynomial 1 with a weight that is not small", one(), inputs(zset(entry(weight, 4))), 0)
	}
	z := numbered(1, impl.VarsPerInput, 3)
	all := variables(0, impl.MaxVar, 1)
	expectValue(t, "the most entries", all, inputs(z, z, z), 900)
	expectValue(t, "more inputs than there may be", all, inputs(z, z, z, nil), 0)
	expectValue(t, "far more inputs than there may be", one(), make([][]impl.Entry, 100), 0)
	large := numbered(1, impl.VarsPerInput+1, 3)
	expectValue(t, "an entry more", all, inputs(large), 0)
	expectValue(t, "an entry more in the last input", one(), inputs(nil, nil, large), 0)
	for name, bad := range invalidZSets() {
		expectValue(t, name, one(), inputs(bad), 0)
		expectValue(t, "last: "+name, one(), inputs(z, nil, bad), 0)
	}
	for name, p := range invalidPolys() {
		expectValue(t, name, p, inputs(z, z, z), 0)
		expectValue(t, "without inputs: "+name, p, nil, 0)
	}
}

// isPositiveKind is the reference for kinds of nodes of positive plans.
func isPositiveKind(kind int) bool {
	return slices.Contains([]int{1, 2, 3, 4, 6}, kind)
}

func TestP102PositivityIsAPropertyOfTheNodes(t *testing.T) {
	var kinds []int
	for kind := -2; kind <= 12; kind++ {
		kinds = append(kinds, kind)
	}
	positivePlan := plan(source(0), filterOf(0, predicate(0, impl.Equal, 1)), mapOf(1, 0), unionOf(0, 2), joinOf(3, 1, 1))
	for _, kind := range append(kinds, math.MaxInt, math.MinInt, 100) {
		want := isPositiveKind(kind)
		for _, n := range []impl.Node{{Kind: kind}, {Kind: kind, A: -5, B: 100, Key: 3, Cols: []int{-1}, Pred: predicate(9, 9, 9), Agg: 9, Col: 9}} {
			what := fmt.Sprint("IsPositive with ", n)
			expectBool(t, what, impl.IsPositive(plan(n)), want)
			expectBool(t, what+" first", impl.IsPositive(append(plan(n), positivePlan...)), want)
			expectBool(t, what+" last", impl.IsPositive(append(slices.Clone(positivePlan), n)), want)
			expectBool(t, what+" in a plan that is too long", impl.IsPositive(append(slices.Repeat(positivePlan, 20), n)), want)
		}
	}
	expectBool(t, "IsPositive without nodes", impl.IsPositive(nil), true)
	expectBool(t, "IsPositive without nodes", impl.IsPositive([]impl.Node{}), true)
	r := newRandom()
	for range 2000 {
		var list []impl.Node
		want, hasJoin := true, false
		for range r.IntN(5) {
			n := impl.Node{Kind: between(r, 0, 9), A: r.IntN(3)}
			list = append(list, n)
			want = want && impl.IsPositive(plan(n))
			hasJoin = hasJoin || n.Kind == impl.JoinNode
		}
		expectBool(t, fmt.Sprintf("IsPositive(%v)", list), impl.IsPositive(list), want)
		if want {
			expectBool(t, fmt.Sprintf("IsLinear of the positive plan %v", list), impl.IsLinear(list), !hasJoin)
		}
	}
}

// explainedRow is a row with its polynomial.
type explainedRow struct {
	row []int
	p   []impl.Term
}

// explanation has the polynomials of the rows of a node.
type explanation map[string]explainedRow

func (x explanation) of(row []int) []impl.Term {
	return x[fmt.Sprint(row)].p
}

// explainedNode is the reference for the polynomials of a node. It lists the ways to obtain each row, and adds them up.
func explainedNode(n impl.Node, inputs [][]impl.Entry, nodes []explanation) explanation {
	ways := map[string][]explainedRow{}
	add := func(row []int, p []impl.Term) {
		key := fmt.Sprint(row)
		ways[key] = append(ways[key], explainedRow{row, p})
	}
	switch n.Kind {
	case impl.Source:
		for k, e := range inputs[n.A] {
			add(e.Row, poly(term(1, 100*n.A+k)))
		}
	case impl.FilterNode:
		for _, x := range nodes[n.A] {
			if holds(n.Pred, x.row) {
				add(x.row, x.p)
			}
		}
	case impl.MapNode:
		for _, x := range nodes[n.A] {
			add(picked(x.row, n.Cols), x.p)
		}
	case impl.UnionNode:
		for _, index := range []int{n.A, n.B} {
			for _, x := range nodes[index] {
				add(x.row, x.p)
			}
		}
	case impl.JoinNode:
		for _, a := range nodes[n.A] {
			for _, b := range nodes[n.B] {
				if slices.Equal(a.row[:n.Key], b.row[:n.Key]) {
					add(slices.Concat(a.row, b.row[n.Key:]), ifPoly(polyProduct(a.p, b.p)))
				}
			}
		}
	}
	sums := explanation{}
	for key, list := range ways {
		var parts [][]impl.Term
		for _, x := range list {
			parts = append(parts, x.p)
		}
		sums[key] = explainedRow{list[0].row, ifPoly(polySum(parts...))}
	}
	return sums
}

// hasOnlyTerms reports whether no polynomial was too large and counts as empty.
func (x explanation) hasOnlyTerms() bool {
	for _, each := range x {
		if len(each.p) == 0 {
			return false
		}
	}
	return true
}

// explained is the reference for the polynomials of all nodes. It gives up if a node has too many rows or too large ones.
func explained(list []impl.Node, inputs [][]impl.Entry) ([]explanation, bool) {
	var nodes []explanation
	for _, n := range list {
		x := explainedNode(n, inputs, nodes)
		if len(x) > 300 || !x.hasOnlyTerms() {
			return nil, false
		}
		nodes = append(nodes, x)
	}
	return nodes, true
}

// provenanceCase is a positive plan with small inputs and the polynomials of its nodes.
type provenanceCase struct {
	plan   []impl.Node
	widths []int
	inputs [][]impl.Entry
	nodes  []explanation
	// isExact tells that every Z-set on the way can be represented.
	isExact bool
}

func (c provenanceCase) String() string {
	return fmt.Sprintf("(%v, %v, %v)", c.plan, c.widths, c.inputs)
}

func (c provenanceCase) last() explanation {
	return c.nodes[len(c.nodes)-1]
}

func (c provenanceCase) provenance(row []int) []impl.Term {
	return impl.Provenance(c.plan, c.widths, c.inputs, row)
}

// randomPositivePlan prefers projections to few columns, so that rows are obtained in several ways.
func randomPositivePlan(r *rand.Rand, n int, inputs []int) []impl.Node {
	var list []impl.Node
	var nodes []int
	for len(list) < n {
		node := randomNode(r, inputs, nodes)
		if len(list) > 0 && r.IntN(3) == 0 {
			node = mapOf(len(list)-1, r.IntN(nodes[len(list)-1]))
		}
		if width, ok := widthOfNode(node, inputs, nodes); ok && isPositiveKind(node.Kind) {
			list, nodes = append(list, node), append(nodes, width)
		}
	}
	return list
}

func randomProvenanceCase(r *rand.Rand) provenanceCase {
	for {
		widths := randomWidths(r)
		c := provenanceCase{plan: randomPositivePlan(r, between(r, 1, 9), widths), widths: widths}
		for _, width := range widths {
			z := sumOf(randomEntries(r, r.IntN(12), width))
			for i := range z {
				z[i].Weight = min(max(z[i].Weight, -9), 9)
			}
			c.inputs = append(c.inputs, z)
		}
		nodes, ok := explained(c.plan, c.inputs)
		if !ok || len(nodes[len(nodes)-1]) == 0 && r.IntN(20) > 0 {
			continue
		}
		_, tooLarge := evaluated(c.plan, c.inputs)
		c.nodes, c.isExact = nodes, tooLarge == 0
		return c
	}
}

// someProvenanceCases returns cases of which enough obtain rows in several ways, or from several entries at once.
func someProvenanceCases(t *testing.T, n int) []provenanceCase {
	t.Helper()
	r := newRandom()
	var list []provenanceCase
	several, joined, cancelled := 0, 0, 0
	for range n {
		c := randomProvenanceCase(r)
		list = append(list, c)
		for _, x := range c.last() {
			if len(x.p) > 1 {
				several++
			}
			if len(x.p[0].Vars) > 1 {
				joined++
			}
			if polyValue(x.p, c.inputs) == 0 {
				cancelled++
			}
		}
	}
	if several < n/3 || joined < n/2 || cancelled < n/20 {
		t.Errorf("of %d cases, %d rows are obtained in several ways, %d from several entries, and %d have the weight 0", n, several, joined, cancelled)
	}
	return list
}

// rowsAround returns the rows of the last node, and rows that are not obtained.
func (c provenanceCase) rowsAround(r *rand.Rand) [][]int {
	width := widthsOf(c.plan, c.widths)[len(c.plan)-1]
	var rows [][]int
	for range 5 {
		rows = append(rows, randomList(r, width, 3))
	}
	for _, x := range c.last() {
		rows = append(rows, x.row)
	}
	return rows
}

func TestP103ProvenanceIsTheDefinition(t *testing.T) {
	r := newRandom()
	for _, c := range someProvenanceCases(t, 2000) {
		for _, row := range c.rowsAround(r) {
			p := c.provenance(row)
			expectPoly(t, fmt.Sprintf("Provenance%v of %v", c, row), p, c.last().of(row))
			expectBool(t, "ValidPoly of Provenance", impl.ValidPoly(p), true)
		}
	}
}

func TestP103ProvenanceExplainsWeights(t *testing.T) {
	r := newRandom()
	exact := 0
	for _, c := range someProvenanceCases(t, 2000) {
		if !c.isExact {
			continue
		}
		exact++
		result := impl.EvalPlan(c.plan, c.widths, c.inputs)
		for _, row := range c.rowsAround(r) {
			expectValue(t, fmt.Sprintf("Provenance%v of %v", c, row), c.provenance(row), c.inputs, impl.WeightOf(result, row))
		}
		for _, e := range result {
			if len(c.provenance(e.Row)) == 0 {
				t.Errorf("Provenance%v of the row %v of the result is empty", c, e.Row)
			}
		}
	}
	if exact < 1000 {
		t.Errorf("only %d plans have Z-sets that can be represented", exact)
	}
}

func TestP104ProvenancePredictsOtherWeights(t *testing.T) {
	r := newRandom()
	changed := 0
	for _, c := range someProvenanceCases(t, 2000) {
		opposite := negatedAll(c.inputs)
		if _, tooLarge := evaluated(c.plan, opposite); tooLarge > 0 {
			continue
		}
		result := impl.EvalPlan(c.plan, c.widths, opposite)
		for _, row := range c.rowsAround(r) {
			p := c.provenance(row)
			weight := impl.WeightOf(result, row)
			expectValue(t, fmt.Sprintf("Provenance%v of %v", c, row), p, opposite, weight)
			expectPoly(t, "Provenance for the opposite weights", impl.Provenance(c.plan, c.widths, opposite, row), p)
			if weight != 0 && weight != -impl.PolyEval(p, c.inputs) {
				changed++
			}
		}
	}
	if changed < 500 {
		t.Errorf("only %d weights are not just the opposite ones", changed)
	}
}

func TestP105ProvenanceRefersToEntriesOfTheInputs(t *testing.T) {
	for _, c := range someProvenanceCases(t, 1000) {
		for _, x := range c.last() {
			for _, each := range c.provenance(x.row) {
				if each.Coef < 1 || len(each.Vars) < 1 {
					t.Errorf("Provenance%v of %v has the term %v", c, x.row, each)
				}
				for _, v := range each.Vars {
					if v < 0 || v/100 >= len(c.inputs) || v%100 >= len(c.inputs[v/100]) {
						t.Errorf("Provenance%v of %v has the variable %d", c, x.row, v)
					}
				}
			}
		}
	}
}

func TestP103GivenProvenance(t *testing.T) {
	a := zset(entry(2, 1, 5), entry(-2, 1, 6), entry(4, 2, 5))
	b := zset(entry(3, 1, 7, 7), entry(1, 2, 5, 9))
	zs := inputs(a, b)
	keys := mapOf(0, 0)
	cases := []struct {
		what string
		plan []impl.Node
		row  []int
		want []impl.Term
	}{
		{"the first entry", plan(source(0)), []int{1, 5}, poly(term(1, 0))},
		{"the last entry", plan(source(0)), []int{2, 5}, poly(term(1, 2))},
		{"an entry of the second input", plan(source(1)), []int{2, 5, 9}, poly(term(1, 101))},
		{"no entry", plan(source(0)), []int{2, 6}, nil},
		{"a row that is kept", plan(source(0), filterOf(0, predicate(1, impl.Less, 6))), []int{1, 5}, poly(term(1, 0))},
		{"a row that is not kept", plan(source(0), filterOf(0, predicate(1, impl.Less, 6))), []int{1, 6}, nil},
		{"several rows with a projection", plan(source(0), keys), []int{1}, poly(term(1, 0), term(1, 1))},
		{"one row with a projection", plan(source(0), keys), []int{2}, poly(term(1, 2))},
		{"no row with a projection", plan(source(0), keys), []int{3}, nil},
		{"columns that are repeated", plan(source(0), mapOf(0, 1, 1, 0)), []int{5, 5, 2}, poly(term(1, 2))},
		{"columns that are repeated and differ", plan(source(0), mapOf(0, 1, 1, 0)), []int{5, 6, 1}, nil},
		{"a row in both", plan(source(0), source(1), mapOf(1, 0, 1), unionOf(0, 2)), []int{2, 5}, poly(term(1, 2), term(1, 101))},
		{"a row in the first only", plan(source(0), source(1), mapOf(1, 0, 1), unionOf(0, 2)), []int{1, 6}, poly(term(1, 1))},
		{"a row in the second only", plan(source(0), source(1), mapOf(1, 0, 1), unionOf(0, 2)), []int{1, 7}, poly(term(1, 100))},
		{"a union with itself", plan(source(0), unionOf(0, 0), unionOf(1, 0)), []int{1, 5}, poly(term(3, 0))},
		{"a join", plan(source(0), source(1), joinOf(0, 1, 1)), []int{1, 6, 7, 7}, poly(term(1, 1, 100))},
		{"a join of other keys", plan(source(0), source(1), joinOf(0, 1, 1)), []int{1, 6, 5, 9}, nil},
		{"a join on no columns", plan(source(0), source(1), joinOf(0, 1, 0)), []int{1, 6, 2, 5, 9}, poly(term(1, 1, 101))},
		{"a join the other way round", plan(source(1), source(0), joinOf(0, 1, 2)), []int{2, 5, 9}, poly(term(1, 2, 101))},
		{"a join with itself", plan(source(0), joinOf(0, 0, 2)), []int{1, 5}, poly(term(1, 0, 0))},
		{"a join of sums", plan(source(0), keys, joinOf(1, 1, 1)), []int{1}, poly(term(1, 0, 0), term(2, 0, 1), term(1, 1, 1))},
		{"a join of different sums", plan(source(0), source(1), keys, mapOf(1, 0), unionOf(2, 3), joinOf(4, 2, 1)), []int{2}, poly(term(1, 2, 2), term(1, 2, 101))},
		{"a sum of products", plan(source(0), joinOf(0, 0, 1), mapOf(1, 0)), []int{1}, poly(term(1, 0, 0), term(2, 0, 1), term(1, 1, 1))},
		{"a sum of some products", plan(source(0), joinOf(0, 0, 1), filterOf(1, predicate(2, impl.Greater, 5)), mapOf(2, 0)), []int{1}, poly(term(1, 0, 1), term(1, 1, 1))},
		{"a projection of a union", plan(source(0), mapOf(0, 1, 0), unionOf(0, 1), mapOf(2, 0)), []int{5}, poly(term(1, 0), term(1, 2))},
		{"a projection of a union with equal rows", plan(source(0), unionOf(0, 0), mapOf(1, 0)), []int{1}, poly(term(2, 0), term(2, 1))},
		{"a projection of a projection", plan(source(0), mapOf(0, 0, 0, 1), mapOf(1, 1)), []int{1}, poly(term(1, 0), term(1, 1))},
		{"a projection of equal projections", plan(source(0), mapOf(0, 0), joinOf(1, 1, 0), mapOf(2, 1)), []int{2}, poly(term(1, 0, 2), term(1, 1, 2), term(1, 2, 2))},
		{"a node that is not the last one", plan(source(0), source(1), source(0)), []int{1, 5}, poly(term(1, 0))},
	}
	for _, c := range cases {
		expectPoly(t, "Provenance: "+c.what, impl.Provenance(c.plan, []int{2, 3}, zs, c.row), c.want)
	}
	if impl.WeightOf(impl.EvalPlan(plan(source(0), keys), []int{2, 3}, zs), []int{1}) != 0 {
		t.Error("the sum of several rows has not the weight 0 that it is meant to have")
	}
}

func TestP103RowsThatAreNotObtained(t *testing.T) {
	zs := inputs(zset(entry(1, 1, 5), entry(1, 1, 6)))
	plans := [][]impl.Node{
		plan(source(0)), plan(source(0), filterOf(0, predicate(1, impl.NotEqual, 4))), plan(source(0), mapOf(0, 1, 0)),
		plan(source(0), unionOf(0, 0)), plan(source(0), joinOf(0, 0, 2)), plan(source(0), mapOf(0, 0), joinOf(1, 1, 0)),
	}
	for _, list := range plans {
		for name, row := range invalidRows() {
			expectPoly(t, "Provenance of a row: "+name, impl.Provenance(list, []int{2}, zs, row), nil)
		}
		for width := range 10 {
			if width != 2 {
				expectPoly(t, fmt.Sprint("Provenance of a row of the width ", width), impl.Provenance(list, []int{2}, zs, repeated(width, 1)), nil)
			}
		}
		expectPoly(t, "Provenance for an empty input", impl.Provenance(list, []int{2}, inputs(nil), []int{1, 5}), nil)
	}
}

func TestP103InvalidPlansAndInputs(t *testing.T) {
	z := zset(entry(1, 1, 2))
	zs := inputs(z, zset(entry(1, 1, 2, 3)), z)
	for name, n := range invalidLastNodes() {
		for _, bad := range [][]impl.Node{append(sources(), n), append(sources(), n, source(0))} {
			expectPoly(t, "Provenance: "+name, impl.Provenance(bad, threeWidths(), zs, []int{1, 2}), nil)
		}
	}
	for _, bad := range [][]impl.Node{nil, {}, slices.Repeat(plan(source(0)), impl.MaxNodes+1)} {
		expectPoly(t, fmt.Sprintf("Provenance of %d nodes", len(bad)), impl.Provenance(bad, []int{2}, inputs(z), []int{1, 2}), nil)
	}
	expectPoly(t, "Provenance of the most nodes", impl.Provenance(slices.Repeat(plan(source(0)), impl.MaxNodes), []int{2}, inputs(z), []int{1, 2}), poly(term(1, 0)))
	for _, widths := range badWidths() {
		bad := make([][]impl.Entry, len(widths))
		if len(bad) > 0 {
			bad[0] = z
		}
		expectPoly(t, fmt.Sprint("Provenance for the widths ", widths), impl.Provenance(plan(source(0)), widths, bad, []int{1, 2}), nil)
	}
	for name, bad := range invalidZSets() {
		for width := 1; width <= 2; width++ {
			expectPoly(t, "Provenance: "+name, impl.Provenance(plan(source(0)), []int{width}, inputs(bad), repeated(width, 1)), nil)
			expectPoly(t, "Provenance, an input that is not used: "+name, impl.Provenance(plan(source(0)), []int{2, width}, inputs(z, bad), []int{1, 2}), nil)
		}
	}
	for _, bad := range [][][]impl.Entry{nil, inputs(), inputs(z), inputs(z, z), inputs(z, nil, nil), inputs(nil, z), inputs(z, zs[1], z)} {
		expectPoly(t, fmt.Sprint("Provenance of ", bad), impl.Provenance(plan(source(0)), []int{2, 3}, bad, []int{1, 2}), nil)
	}
	expectPoly(t, "Provenance with an empty input", impl.Provenance(plan(source(0)), []int{2, 3}, inputs(z, nil), []int{1, 2}), poly(term(1, 0)))
}

func TestP103PlansThatAreNotPositive(t *testing.T) {
	z := zset(entry(1, 1, 2))
	for _, n := range []impl.Node{negateOf(0), distinctNodeOf(0), reduceOf(0, 1, impl.Count, 1)} {
		expectBool(t, "PlanWidths is defined", len(impl.PlanWidths(plan(source(0), n), []int{2})) == 2, true)
		for _, row := range [][]int{{1, 2}, {1, 1}} {
			expectPoly(t, fmt.Sprint("Provenance with ", n), impl.Provenance(plan(source(0), n), []int{2}, inputs(z), row), nil)
			expectPoly(t, fmt.Sprint("Provenance with a node that is not used ", n), impl.Provenance(plan(source(0), n, source(0)), []int{2}, inputs(z), row), nil)
		}
	}
}

func TestP103InputsThatAreNotSmall(t *testing.T) {
	row := []int{4}
	for _, weight := range []int{-9, -1, 1, 9} {
		expectPoly(t, "Provenance of a small weight", impl.Provenance(plan(source(0)), []int{1}, inputs(zset(entry(weight, 4))), row), poly(term(1, 0)))
		expectPoly(t, "Provenance with a small weight", impl.Provenance(plan(source(0)), []int{1, 1}, inputs(zset(entry(1, 4)), zset(entry(weight, 5))), row), poly(term(1, 0)))
	}
	for _, weight := range []int{-10, 10, impl.MaxWeight} {
		expectPoly(t, "Provenance of a weight that is not small", impl.Provenance(plan(source(0)), []int{1}, inputs(zset(entry(weight, 4))), row), nil)
		expectPoly(t, "Provenance with a weight that is not small", impl.Provenance(plan(source(0)), []int{1, 1}, inputs(zset(entry(1, 4)), zset(entry(weight, 5))), row), nil)
	}
	z, widths := numbered(1, impl.VarsPerInput, 1), []int{1, 1, 1}
	for input := range 3 {
		for k := range impl.VarsPerInput {
			p := impl.Provenance(plan(source(input)), widths, inputs(z, z, z), []int{k + 1})
			expectPoly(t, "Provenance with the most entries", p, poly(term(1, 100*input+k)))
		}
		zs := inputs(z, z, z)
		zs[input] = numbered(1, impl.VarsPerInput+1, 1)
		expectPoly(t, "Provenance with an entry more", impl.Provenance(plan(source(0)), widths, zs, []int{1}), nil)
	}
}

// constants returns n rows of width 2 with the same first column.
func constants(n int) []impl.Entry {
	var z []impl.Entry
	for i := range n {
		z = append(z, entry(1, 1, i))
	}
	return z
}

func TestP103WhatIsNotAPolynomialCountsAsEmpty(t *testing.T) {
	widths := []int{2, 2}
	most, tooMany := inputs(constants(20), constants(20)), inputs(constants(20), constants(21))
	joinedFirst := plan(source(0), source(1), joinOf(0, 1, 1), mapOf(2, 0))
	all := polyProduct(variables(0, 19, 1), variables(100, 119, 1))
	expectPoly(t, "Provenance, a sum of the most terms", impl.Provenance(joinedFirst, widths, most, []int{1}), all)
	expectPoly(t, "Provenance, a sum of too many terms", impl.Provenance(joinedFirst, widths, tooMany, []int{1}), nil)
	projectedFirst := plan(source(0), source(1), mapOf(0, 0), mapOf(1, 0), joinOf(2, 3, 1))
	expectPoly(t, "Provenance, a product of the most terms", impl.Provenance(projectedFirst, widths, most, []int{1}), all)
	expectPoly(t, "Provenance, a product of too many terms", impl.Provenance(projectedFirst, widths, tooMany, []int{1}), nil)
	for _, list := range [][]impl.Node{joinedFirst, projectedFirst} {
		before := len(list) - 1
		withUnion := append(slices.Clone(list), mapOf(0, 0), unionOf(before, before+1))
		expectPoly(t, "Provenance, a union that is too large", impl.Provenance(withUnion, widths, most, []int{1}), nil)
		expectPoly(t, "Provenance, a union with what counts as empty", impl.Provenance(withUnion, widths, tooMany, []int{1}), variables(0, 19, 1))
		withJoin := append(slices.Clone(list), mapOf(0, 0), joinOf(before, before+1, 1))
		expectPoly(t, "Provenance, a join with what counts as empty", impl.Provenance(withJoin, widths, tooMany, []int{1}), nil)
	}
	one := numbered(1, 1, 1)
	doubled := plan(source(0))
	for i := range 10 {
		doubled = append(doubled, unionOf(i, i))
		expectPoly(t, "Provenance, doubled", impl.Provenance(doubled, []int{1}, inputs(one), []int{1}), poly(term(1<<(i+1), 0)))
	}
	squared := append(doubled[:10], joinOf(9, 9, 1))
	expectPoly(t, "Provenance, squared", impl.Provenance(squared, []int{1}, inputs(one), []int{1}), poly(term(512*512, 0, 0)))
	expectPoly(t, "Provenance, twice the square", impl.Provenance(append(squared, unionOf(10, 10)), []int{1}, inputs(one), []int{1}), poly(term(2*512*512, 0, 0)))
	squared = append(doubled[:10], unionOf(9, 9), joinOf(10, 10, 1))
	expectPoly(t, "Provenance, a coefficient that is too large", impl.Provenance(squared, []int{1}, inputs(one), []int{1}), nil)
	power := plan(source(0), joinOf(0, 0, 1), joinOf(1, 0, 1), joinOf(2, 1, 1), joinOf(2, 2, 1), joinOf(4, 0, 1))
	expectPoly(t, "Provenance, the highest power", impl.Provenance(power[:5], []int{1}, inputs(one), []int{1}), poly(term(1, repeated(6, 0)...)))
	expectPoly(t, "Provenance, a power that is too high", impl.Provenance(power, []int{1}, inputs(one), []int{1}), nil)
}

func TestP103SomeRowsCountAsEmptyInASum(t *testing.T) {
	// The rows with the first column 1 have too many products, and the row with the first column 2 has one.
	z := append(constants(30), entry(1, 2, 7))
	list := plan(source(0), mapOf(0, 0), joinOf(1, 1, 1), mapOf(2, 0, 0), mapOf(3, 1))
	expectPoly(t, "Provenance of the row with too many terms", impl.Provenance(list, []int{2}, inputs(z), []int{1}), nil)
	expectPoly(t, "Provenance of the other row", impl.Provenance(list, []int{2}, inputs(z), []int{2}), poly(term(1, 30, 30)))
	pairs := zset(entry(1, 1, 1), entry(1, 2, 1))
	list = append(list[:3], source(1), joinOf(3, 2, 1), mapOf(4, 1))
	expectPoly(t, "Provenance of a sum with a row that counts as empty", impl.Provenance(list, []int{2, 2}, inputs(z, pairs), []int{1}), poly(term(1, 30, 30, 101)))
	// The node 4 has the degree 4 for the row 1, whose square is too high, and the degree 1 for the row 2.
	list = plan(source(0), joinOf(0, 0, 1), joinOf(1, 1, 1), source(1), unionOf(2, 3), joinOf(4, 4, 1), joinOf(5, 5, 0), mapOf(6, 0))
	for value, want := range [][]impl.Term{nil, nil, poly(term(1, 100, 100, 100, 100))} {
		p := impl.Provenance(list, []int{1, 1}, inputs(numbered(1, 1, 1), numbered(2, 2, 1)), []int{value})
		expectPoly(t, fmt.Sprint("Provenance of rows of different degrees ", value), p, want)
	}
}

func TestP103PlansWithFarTooManyRows(t *testing.T) {
	z := numbered(1, impl.VarsPerInput, 1)
	cross := plan(source(0), joinOf(0, 0, 0), joinOf(1, 1, 0), joinOf(2, 1, 0))
	row := []int{1, 100, 3, 4, 5, 5}
	expectPoly(t, "Provenance of a row among very many", impl.Provenance(cross, []int{1}, inputs(z), row), poly(term(1, 0, 2, 3, 4, 4, 99)))
	expectPoly(t, "Provenance of a projection of very many", impl.Provenance(append(cross, mapOf(3, 0)), []int{1}, inputs(z), []int{1}), nil)
	few := append(cross, filterOf(3, predicate(1, impl.Less, 3)), mapOf(4, 0, 2, 3, 4, 5))
	expectPoly(t, "Provenance of a projection of few", impl.Provenance(few, []int{1}, inputs(z), []int{1, 3, 4, 5, 5}), poly(term(1, 0, 0, 2, 3, 4, 4), term(1, 0, 1, 2, 3, 4, 4)))
	none := append(cross, filterOf(3, predicate(5, impl.Greater, 100)), mapOf(4, 0))
	expectPoly(t, "Provenance of a projection of none", impl.Provenance(none, []int{1}, inputs(z), []int{1}), nil)
	joins, unions, maps := plan(source(0)), plan(source(0)), plan(source(0))
	for i := range impl.MaxNodes - 2 {
		joins, unions, maps = append(joins, joinOf(i, i, 2)), append(unions, unionOf(i, i)), append(maps, mapOf(i, 1, 0))
	}
	last := mapOf(impl.MaxNodes-2, 0)
	same := constants(impl.VarsPerInput)
	expectPoly(t, "Provenance of a projection of joins", impl.Provenance(append(joins, last), []int{2}, inputs(same), []int{1}), nil)
	expectPoly(t, "Provenance of a projection of unions", impl.Provenance(append(unions, last), []int{2}, inputs(same), []int{1}), variables(0, 99, 1024))
	expectPoly(t, "Provenance of a projection of projections", impl.Provenance(append(maps, last), []int{2}, inputs(same), []int{1}), variables(0, 99, 1))
	powers := plan(source(0), joinOf(0, 0, 0), joinOf(1, 0, 0), joinOf(2, 2, 1), joinOf(3, 3, 4), mapOf(4, 5))
	expectPoly(t, "Provenance of a projection of products that are too high", impl.Provenance(powers, []int{1}, inputs(z), []int{1}), nil)
	high := plan(source(0), joinOf(0, 0, 1), joinOf(1, 1, 1), joinOf(2, 2, 1), joinOf(3, 3, 0), joinOf(4, 4, 0), mapOf(5, 0))
	expectPoly(t, "Provenance of a projection of rows without terms", impl.Provenance(high, []int{1}, inputs(z), []int{1}), nil)
}

func TestProvenanceFunctionsReturnNewMemory(t *testing.T) {
	a, b := poly(term(1), term(2, 0, 1), term(3, 5)), poly(term(-1), term(1, 1, 1), term(1, 5))
	expectFresh(t, "PolyAdd", impl.PolyAdd, a, b)
	expectFresh(t, "PolyAdd of nothing", impl.PolyAdd, a, nil)
	expectFresh(t, "PolyAdd to nothing", impl.PolyAdd, nil, a)
	expectFresh(t, "PolyMul", impl.PolyMul, a, b)
	expectFresh(t, "PolyMul with 1", impl.PolyMul, a, one())
	expectFresh(t, "PolyMul of 1", impl.PolyMul, one(), a)
	zs := inputs(zset(entry(2, 1, 5), entry(1, 1, 6)))
	list := plan(source(0), mapOf(0, 0), joinOf(1, 1, 1), unionOf(2, 2), joinOf(3, 1, 0), filterOf(4, predicate(0, impl.Equal, 1)), mapOf(5, 1))
	widths := widthsOf(list, []int{2})
	for n, width := range widths {
		row := repeated(width, 1)
		if n == 0 {
			row = []int{1, 5}
		}
		expectFresh(t, fmt.Sprint("Provenance of the nodes up to ", n), impl.Provenance, list[:n+1], []int{2}, zs, row)
	}
}
