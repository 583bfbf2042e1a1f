package tests

import (
	"fmt"
	"math"
	"math/rand/v2"
	"slices"
	"testing"

	"loop.example/dataflow/impl"
)

const (
	predCount     = impl.MaxPred + 1
	constantCount = impl.MaxConstant + 1
	variableCount = impl.MaxVariable + 1
)

// atom returns an atom whose variables are named by letters: x is 0, y is 1, z is 2, w is 3.
func atom(pred int, variables string) impl.Atom {
	number := func(letter byte) int { return slices.Index([]byte("xyzw"), letter) }
	return impl.Atom{Pred: pred, X: number(variables[0]), Y: number(variables[1])}
}

func notAtom(pred int, variables string) impl.Atom {
	a := atom(pred, variables)
	a.Not = true
	return a
}

func ruleOf(head impl.Atom, body ...impl.Atom) impl.Rule {
	return impl.Rule{Head: head, Body: body}
}

func program(rules ...impl.Rule) []impl.Rule {
	return rules
}

// factList returns the set of the given facts, which may be in any order.
func factList(rows ...[3]int) []impl.Entry {
	var facts []impl.Entry
	for _, row := range rows {
		facts = append(facts, entry(1, row[0], row[1], row[2]))
	}
	return distinctOf(sumOf(facts))
}

// factsOf returns the facts of a predicate for pairs of constants.
func factsOf(pred int, pairs []impl.Entry) []impl.Entry {
	var facts []impl.Entry
	for _, e := range pairs {
		facts = append(facts, entry(1, pred, e.Row[0], e.Row[1]))
	}
	return facts
}

// pairsFor inverts factsOf.
func pairsFor(pred int, facts []impl.Entry) []impl.Entry {
	var pairs []impl.Entry
	for _, e := range facts {
		if e.Row[0] == pred {
			pairs = append(pairs, entry(1, e.Row[1], e.Row[2]))
		}
	}
	return pairs
}

// allFacts returns every fact of the given predicates.
func allFacts(preds ...int) []impl.Entry {
	var facts []impl.Entry
	for _, pred := range preds {
		facts = append(facts, factsOf(pred, allPairs(constantCount))...)
	}
	return facts
}

func isPartOf(part []impl.Entry, whole []impl.Entry) bool {
	return len(setMinus(part, whole)) == 0
}

func isPositive(rules []impl.Rule) bool {
	return !slices.ContainsFunc(rules, func(r impl.Rule) bool {
		return slices.ContainsFunc(r.Body, func(a impl.Atom) bool { return a.Not })
	})
}

// factTable is the reference for facts.
type factTable [predCount][constantCount][constantCount]bool

func tableOf(facts []impl.Entry) factTable {
	var table factTable
	for _, e := range facts {
		table[e.Row[0]][e.Row[1]][e.Row[2]] = true
	}
	return table
}

func (table factTable) entries() []impl.Entry {
	return slices.DeleteFunc(allFacts(upward(predCount)...), func(e impl.Entry) bool { return !table[e.Row[0]][e.Row[1]][e.Row[2]] })
}

// following is the reference for one application of a rule: it tries all constants for all variables.
func (table factTable) following(rules []impl.Rule) factTable {
	var heads factTable
	for number := range constantCount * constantCount * constantCount * constantCount {
		var constants [variableCount]int
		for i, rest := 0, number; i < variableCount; i, rest = i+1, rest/constantCount {
			constants[i] = rest % constantCount
		}
		for _, r := range rules {
			isMatch := true
			for _, a := range r.Body {
				isMatch = isMatch && table[a.Pred][constants[a.X]][constants[a.Y]] != a.Not
			}
			if isMatch {
				heads[r.Head.Pred][constants[r.Head.X]][constants[r.Head.Y]] = true
			}
		}
	}
	return heads
}

func (table factTable) union(other factTable) factTable {
	for pred := range table {
		for x := range table[pred] {
			for y := range table[pred][x] {
				table[pred][x][y] = table[pred][x][y] || other[pred][x][y]
			}
		}
	}
	return table
}

// respects reports whether numbers for the predicates are as the rules require.
func respects(rules []impl.Rule, numbers []int) bool {
	for _, r := range rules {
		for _, a := range r.Body {
			if numbers[r.Head.Pred] < numbers[a.Pred] || a.Not && numbers[r.Head.Pred] == numbers[a.Pred] {
				return false
			}
		}
	}
	return true
}

// leastNumbers is the reference for strata: it tries all numbers for the predicates, each up to their count. It
// returns none if no numbers are right, and otherwise the least of each predicate.
func leastNumbers(rules []impl.Rule) []int {
	var least []int
	for number := range (predCount + 1) * (predCount + 1) * (predCount + 1) * (predCount + 1) {
		numbers := make([]int, predCount)
		for i, rest := 0, number; i < predCount; i, rest = i+1, rest/(predCount+1) {
			numbers[i] = rest % (predCount + 1)
		}
		if !respects(rules, numbers) {
			continue
		}
		if least == nil {
			least = numbers
		}
		for i := range least {
			least[i] = min(least[i], numbers[i])
		}
	}
	return least
}

// evaluatedProgram is the reference for EvalProgram.
func evaluatedProgram(rules []impl.Rule, facts []impl.Entry) []impl.Entry {
	table, numbers := tableOf(facts), leastNumbers(rules)
	for number := range predCount {
		var active []impl.Rule
		for _, r := range rules {
			if numbers[r.Head.Pred] == number {
				active = append(active, r)
			}
		}
		for more := table.union(table.following(active)); more != table; more = table.union(table.following(active)) {
			table = more
		}
	}
	return table.entries()
}

// isRuleByDefinition is the reference for valid rules.
func isRuleByDefinition(r impl.Rule) bool {
	bound := map[int]bool{}
	for _, a := range r.Body {
		if !a.Not {
			bound[a.X], bound[a.Y] = true, true
		}
	}
	isRule := !r.Head.Not && r.Head.Pred >= impl.FirstDerived && 1 <= len(r.Body) && len(r.Body) <= impl.MaxBody
	for _, a := range append(slices.Clone(r.Body), r.Head) {
		isRule = isRule && isIndex(a.Pred, predCount) && isIndex(a.X, variableCount) && isIndex(a.Y, variableCount) && bound[a.X] && bound[a.Y]
	}
	return isRule
}

func randomOf[T any](r *rand.Rand, list []T) T {
	return list[r.IntN(len(list))]
}

// randomRule returns a valid rule, in which a variable may occur several times, and whose atoms are in any order.
func randomRule(r *rand.Rand, negated int) impl.Rule {
	var body []impl.Atom
	var variables []int
	most := between(r, 1, variableCount)
	for range between(r, 1, impl.MaxBody-negated) {
		a := impl.Atom{Pred: r.IntN(predCount), X: r.IntN(most), Y: r.IntN(most)}
		body = append(body, a)
		variables = append(variables, a.X, a.Y)
	}
	for range negated {
		body = append(body, impl.Atom{Pred: r.IntN(predCount), X: randomOf(r, variables), Y: randomOf(r, variables), Not: true})
	}
	r.Shuffle(len(body), func(i int, j int) { body[i], body[j] = body[j], body[i] })
	head := impl.Atom{Pred: between(r, impl.FirstDerived, impl.MaxPred), X: randomOf(r, variables), Y: randomOf(r, variables)}
	return impl.Rule{Head: head, Body: body}
}

// randomRules returns valid rules, which may not be stratified.
func randomRules(r *rand.Rand, mostNegated int) []impl.Rule {
	var rules []impl.Rule
	for range between(r, 0, impl.MaxRules) {
		rules = append(rules, randomRule(r, r.IntN(mostNegated+1)))
	}
	return rules
}

// randomProgram returns a valid program, at least one atom of which is negated if asked for.
func randomProgram(r *rand.Rand, hasNegation bool) []impl.Rule {
	if !hasNegation {
		return randomRules(r, 0)
	}
	for {
		rules := randomRules(r, impl.MaxBody-1)
		if !isPositive(rules) && leastNumbers(rules) != nil {
			return rules
		}
	}
}

// randomFacts returns few or many facts of all predicates for some or all constants.
func randomFacts(r *rand.Rand) []impl.Entry {
	constants := between(r, 1, constantCount)
	var facts []impl.Entry
	for range r.IntN(4 * constants) {
		facts = append(facts, entry(1, r.IntN(predCount), r.IntN(constants), r.IntN(constants)))
	}
	return distinctOf(sumOf(facts))
}

// datalogCase has a valid program and facts.
type datalogCase struct {
	rules []impl.Rule
	facts []impl.Entry
}

func (c datalogCase) String() string {
	return fmt.Sprintf("(%v, %v)", c.rules, c.facts)
}

// someDatalogCases returns random cases and the named ones.
func someDatalogCases(n int, isSuitable func(rules []impl.Rule) bool) []datalogCase {
	r := newRandom()
	var cases []datalogCase
	for i := range n {
		c := datalogCase{randomProgram(r, i%2 == 0), randomFacts(r)}
		if isSuitable(c.rules) {
			cases = append(cases, c)
		}
	}
	for _, named := range namedPrograms() {
		c := datalogCase{named.rules, named.facts}
		if isSuitable(c.rules) {
			cases = append(cases, c)
		}
	}
	return cases
}

func isAnyProgram([]impl.Rule) bool {
	return true
}

// closureRules derive in predicate 2 the paths over predicate 0.
func closureRules() []impl.Rule {
	return program(
		ruleOf(atom(2, "xy"), atom(0, "xy")),
		ruleOf(atom(2, "xz"), atom(2, "xy"), atom(0, "yz")),
	)
}

type namedProgram struct {
	name        string
	rules       []impl.Rule
	facts, want []impl.Entry
}

// namedPrograms has programs with what EvalProgram adds to the facts.
func namedPrograms() []namedProgram {
	edges := factList([3]int{0, 1, 2}, [3]int{0, 2, 3}, [3]int{0, 4, 4})
	return slices.Concat(plainPrograms(edges), repeatedVariablePrograms(edges), negationPrograms(edges))
}

func plainPrograms(edges []impl.Entry) []namedProgram {
	return []namedProgram{
		{"no rules", nil, edges, nil},
		{"no facts", closureRules(), nil, nil},
		{"facts of derived predicates only", nil, factList([3]int{2, 1, 0}, [3]int{3, 5, 5}), nil},
		{"a copy", program(ruleOf(atom(2, "xy"), atom(0, "xy"))), edges, factList([3]int{2, 1, 2}, [3]int{2, 2, 3}, [3]int{2, 4, 4})},
		{"other names of variables", program(ruleOf(atom(2, "wz"), atom(0, "wz"))), edges, factList([3]int{2, 1, 2}, [3]int{2, 2, 3}, [3]int{2, 4, 4})},
		{"a reversed copy", program(ruleOf(atom(3, "yx"), atom(0, "xy"))), edges, factList([3]int{3, 2, 1}, [3]int{3, 3, 2}, [3]int{3, 4, 4})},
		{"a composition", program(ruleOf(atom(2, "xz"), atom(0, "xy"), atom(0, "yz"))), edges, factList([3]int{2, 1, 3}, [3]int{2, 4, 4})},
		{"a composition of three", program(ruleOf(atom(2, "xw"), atom(0, "xy"), atom(0, "yz"), atom(1, "zw"))),
			append(slices.Clone(edges), factList([3]int{1, 3, 0}, [3]int{1, 3, 5}, [3]int{1, 2, 1})...), factList([3]int{2, 1, 0}, [3]int{2, 1, 5})},
		{"a product", program(ruleOf(atom(2, "xw"), atom(0, "xy"), atom(1, "zw"))), factList([3]int{0, 1, 2}, [3]int{0, 3, 2}, [3]int{1, 0, 5}, [3]int{1, 5, 0}),
			factList([3]int{2, 1, 5}, [3]int{2, 1, 0}, [3]int{2, 3, 5}, [3]int{2, 3, 0})},
		{"the closure", closureRules(), edges, factList([3]int{2, 1, 2}, [3]int{2, 1, 3}, [3]int{2, 2, 3}, [3]int{2, 4, 4})},
		{"given paths are continued", closureRules(), factList([3]int{2, 5, 1}, [3]int{0, 1, 0}), factList([3]int{2, 5, 0}, [3]int{2, 1, 0})},
		{"two predicates in turn", program(ruleOf(atom(2, "xz"), atom(3, "xy"), atom(0, "yz")), ruleOf(atom(3, "xz"), atom(2, "xy"), atom(1, "yz"))),
			factList([3]int{3, 0, 0}, [3]int{0, 0, 1}, [3]int{1, 1, 2}, [3]int{0, 2, 3}, [3]int{1, 3, 4}, [3]int{1, 0, 5}),
			factList([3]int{2, 0, 1}, [3]int{3, 0, 2}, [3]int{2, 0, 3}, [3]int{3, 0, 4})},
		{"a rule that needs a later one", program(ruleOf(atom(2, "xy"), atom(3, "xy")), ruleOf(atom(3, "xy"), atom(0, "yx"))),
			factList([3]int{0, 1, 2}), factList([3]int{2, 2, 1}, [3]int{3, 2, 1})},
	}
}

func repeatedVariablePrograms(edges []impl.Entry) []namedProgram {
	return []namedProgram{
		{"a variable twice in an atom", program(ruleOf(atom(2, "xx"), atom(0, "xx"))), edges, factList([3]int{2, 4, 4})},
		{"a variable twice in the head", program(ruleOf(atom(2, "yy"), atom(0, "xy"))), edges, factList([3]int{2, 2, 2}, [3]int{2, 3, 3}, [3]int{2, 4, 4})},
		{"a variable twice in a later atom", program(ruleOf(atom(2, "xy"), atom(0, "xy"), atom(1, "yy"))),
			append(slices.Clone(edges), factList([3]int{1, 1, 1}, [3]int{1, 3, 3}, [3]int{1, 2, 3}, [3]int{1, 3, 2})...), factList([3]int{2, 2, 3})},
		{"a variable twice in an earlier atom", program(ruleOf(atom(2, "xy"), atom(1, "yy"), atom(0, "xy"))),
			append(slices.Clone(edges), factList([3]int{1, 1, 1}, [3]int{1, 3, 3}, [3]int{1, 2, 3}, [3]int{1, 3, 2})...), factList([3]int{2, 2, 3})},
		{"a variable twice in a negated atom", program(ruleOf(atom(2, "xy"), atom(0, "xy"), notAtom(1, "xx"))),
			append(slices.Clone(edges), factList([3]int{1, 1, 1}, [3]int{1, 2, 3}, [3]int{1, 4, 5})...), factList([3]int{2, 2, 3}, [3]int{2, 4, 4})},
		{"both atoms in both directions", program(ruleOf(atom(2, "xy"), atom(0, "xy"), atom(0, "yx"))),
			factList([3]int{0, 1, 2}, [3]int{0, 2, 1}, [3]int{0, 2, 3}, [3]int{0, 5, 5}), factList([3]int{2, 1, 2}, [3]int{2, 2, 1}, [3]int{2, 5, 5})},
		{"the same atom twice", program(ruleOf(atom(2, "xy"), atom(0, "xy"), atom(0, "xy"))), edges, factList([3]int{2, 1, 2}, [3]int{2, 2, 3}, [3]int{2, 4, 4})},
	}
}

func negationPrograms(edges []impl.Entry) []namedProgram {
	unreached := ruleOf(atom(3, "xy"), atom(1, "xx"), atom(1, "yy"), notAtom(2, "xy"))
	threeVertices := factList([3]int{0, 0, 1}, [3]int{0, 1, 2}, [3]int{1, 0, 0}, [3]int{1, 1, 1}, [3]int{1, 2, 2})
	reached := factList([3]int{2, 0, 1}, [3]int{2, 0, 2}, [3]int{2, 1, 2})
	complement := factList([3]int{3, 0, 0}, [3]int{3, 1, 0}, [3]int{3, 1, 1}, [3]int{3, 2, 0}, [3]int{3, 2, 1}, [3]int{3, 2, 2})
	twoStrata := program(ruleOf(atom(2, "xy"), atom(0, "xy"), notAtom(1, "xy")), ruleOf(atom(3, "xy"), atom(0, "xy"), notAtom(2, "xy")))
	minusOne := append(slices.Clone(edges), factList([3]int{1, 2, 3}, [3]int{1, 5, 5})...)
	return []namedProgram{
		{"a difference", twoStrata[:1], minusOne, factList([3]int{2, 1, 2}, [3]int{2, 4, 4})},
		{"the difference of a difference", twoStrata, minusOne, factList([3]int{2, 1, 2}, [3]int{2, 4, 4}, [3]int{3, 2, 3})},
		{"the difference of a difference, the last stratum first", program(twoStrata[1], twoStrata[0]), minusOne,
			factList([3]int{2, 1, 2}, [3]int{2, 4, 4}, [3]int{3, 2, 3})},
		{"the lower stratum has the greater predicate", program(ruleOf(atom(2, "xy"), atom(0, "xy"), notAtom(3, "xy")), ruleOf(atom(3, "yx"), atom(0, "xy"))),
			factList([3]int{0, 1, 2}, [3]int{0, 2, 1}, [3]int{0, 3, 4}), factList([3]int{3, 2, 1}, [3]int{3, 1, 2}, [3]int{3, 4, 3}, [3]int{2, 3, 4})},
		{"pairs without a path", append(closureRules(), unreached), threeVertices, append(slices.Clone(reached), complement...)},
		{"pairs without a path, the last stratum first", append(program(unreached), closureRules()...), threeVertices, append(slices.Clone(reached), complement...)},
		{"the negated atom first", program(ruleOf(atom(3, "xy"), notAtom(1, "xy"), atom(0, "xy"))), minusOne, factList([3]int{3, 1, 2}, [3]int{3, 4, 4})},
		{"the negated atom in between", program(ruleOf(atom(3, "xz"), atom(0, "xy"), notAtom(1, "xz"), atom(0, "yz"))),
			unionOfSets(minusOne, factList([3]int{0, 3, 5}, [3]int{1, 1, 3})), factList([3]int{3, 2, 5}, [3]int{3, 4, 4})},
		{"two negated atoms", program(ruleOf(atom(3, "xy"), notAtom(1, "xy"), atom(0, "xy"), notAtom(1, "yx"))),
			factList([3]int{0, 1, 2}, [3]int{0, 2, 3}, [3]int{0, 3, 4}, [3]int{1, 1, 2}, [3]int{1, 3, 2}), factList([3]int{3, 3, 4})},
		{"given facts of the negated predicate", program(ruleOf(atom(3, "xy"), atom(0, "xy"), notAtom(2, "xy"))),
			append(slices.Clone(edges), factList([3]int{2, 1, 2})...), factList([3]int{3, 2, 3}, [3]int{3, 4, 4})},
		{"a given fact that a negated atom rejects", program(ruleOf(atom(2, "xy"), atom(0, "xy"), notAtom(1, "xy"))),
			factList([3]int{0, 1, 2}, [3]int{1, 1, 2}, [3]int{2, 1, 2}), nil},
		{"recursion above a negated predicate", program(
			ruleOf(atom(2, "xy"), atom(1, "yx")),
			ruleOf(atom(3, "xy"), atom(0, "xy"), notAtom(2, "xy")),
			ruleOf(atom(3, "xz"), atom(3, "xy"), atom(3, "yz"), notAtom(2, "xz"))),
			factList([3]int{0, 0, 1}, [3]int{0, 1, 2}, [3]int{0, 2, 3}, [3]int{0, 3, 4}, [3]int{1, 3, 2}, [3]int{1, 2, 0}, [3]int{1, 4, 4}),
			factList([3]int{2, 2, 3}, [3]int{2, 0, 2}, [3]int{2, 4, 4}, [3]int{3, 0, 1}, [3]int{3, 1, 2}, [3]int{3, 3, 4})},
	}
}

// extremeNumbers has numbers that are out of range wherever a number is at most the limit.
func extremeNumbers(limit int) []int {
	return []int{-1, limit + 1, limit + 2, -limit - 1, math.MaxInt, math.MinInt}
}

// invalidRules has a rule for each way not to be valid.
func invalidRules() map[string]impl.Rule {
	xy := atom(0, "xy")
	rules := map[string]impl.Rule{
		"a negated head":                         ruleOf(notAtom(2, "xy"), xy),
		"the head is predicate 0":                ruleOf(atom(0, "xy"), xy),
		"the head is predicate 1":                ruleOf(atom(1, "xy"), xy),
		"no body":                                ruleOf(atom(2, "xy")),
		"an empty body":                          {Head: atom(2, "xy"), Body: []impl.Atom{}},
		"a body that is too long":                ruleOf(atom(2, "xy"), xy, xy, xy, xy),
		"a body that is far too long":            {Head: atom(2, "xy"), Body: slices.Repeat([]impl.Atom{xy}, 1000)},
		"only a negated atom":                    ruleOf(atom(2, "xy"), notAtom(0, "xy")),
		"only negated atoms":                     ruleOf(atom(2, "xy"), notAtom(0, "xy"), notAtom(1, "xy")),
		"the first variable of the head":         ruleOf(atom(2, "zy"), xy),
		"the second variable of the head":        ruleOf(atom(2, "xz"), xy),
		"both variables of the head":             ruleOf(atom(2, "zw"), xy),
		"the head needs a negated atom":          ruleOf(atom(2, "xz"), xy, notAtom(1, "yz")),
		"the first variable of a negated atom":   ruleOf(atom(2, "xy"), xy, notAtom(1, "zy")),
		"the second variable of a negated atom":  ruleOf(atom(2, "xy"), xy, notAtom(1, "xw")),
		"a variable of the negated atom before":  ruleOf(atom(2, "xy"), notAtom(1, "xz"), xy),
		"a variable of negated atoms only":       ruleOf(atom(2, "xx"), atom(0, "xx"), notAtom(1, "xy"), notAtom(0, "xy")),
		"the variable of a head with two of one": ruleOf(atom(2, "yy"), atom(0, "xx")),
	}
	for _, pred := range extremeNumbers(impl.MaxPred) {
		rules[fmt.Sprint("a head with the predicate ", pred)] = ruleOf(atom(pred, "xy"), xy)
		rules[fmt.Sprint("the predicate ", pred)] = ruleOf(atom(2, "xy"), atom(pred, "xy"))
		rules[fmt.Sprint("behind another atom the predicate ", pred)] = ruleOf(atom(2, "xy"), xy, atom(pred, "xy"))
		rules[fmt.Sprint("a negated atom with the predicate ", pred)] = ruleOf(atom(2, "xy"), xy, notAtom(pred, "xy"))
	}
	for _, number := range extremeNumbers(impl.MaxVariable) {
		rules[fmt.Sprint("X is the variable ", number)] = ruleOf(atom(2, "yy"), impl.Atom{X: number, Y: 1})
		rules[fmt.Sprint("Y is the variable ", number)] = ruleOf(atom(2, "xx"), impl.Atom{X: 0, Y: number})
		rules[fmt.Sprint("behind another atom the variable ", number)] = ruleOf(atom(2, "xy"), xy, impl.Atom{X: number, Y: number})
		rules[fmt.Sprint("in a negated atom X is the variable ", number)] = ruleOf(atom(2, "xy"), xy, impl.Atom{X: number, Not: true})
		rules[fmt.Sprint("in a negated atom Y is the variable ", number)] = ruleOf(atom(2, "xy"), xy, impl.Atom{Y: number, Not: true})
		rules[fmt.Sprint("in the head X is the variable ", number)] = ruleOf(impl.Atom{Pred: 2, X: number}, xy)
		rules[fmt.Sprint("in the head Y is the variable ", number)] = ruleOf(impl.Atom{Pred: 2, Y: number}, xy)
		rules[fmt.Sprint("in head and body the variable ", number)] = ruleOf(impl.Atom{Pred: 2, X: number, Y: number}, impl.Atom{X: number, Y: number})
	}
	return rules
}

// unstratifiedPrograms has programs with valid rules.
func unstratifiedPrograms() map[string][]impl.Rule {
	xy := atom(0, "xy")
	twoAsThree, threeAsTwo := ruleOf(atom(2, "xy"), atom(3, "xy")), ruleOf(atom(3, "xy"), atom(2, "xy"))
	twoNotThree, threeNotTwo := ruleOf(atom(2, "xy"), xy, notAtom(3, "xy")), ruleOf(atom(3, "xy"), xy, notAtom(2, "xy"))
	return map[string][]impl.Rule{
		"2 by not 2":                  program(ruleOf(atom(2, "xy"), xy, notAtom(2, "xy"))),
		"3 by not 3":                  program(ruleOf(atom(3, "xy"), notAtom(3, "xx"), xy)),
		"2 by 2 and not 2":            program(ruleOf(atom(2, "xz"), atom(2, "xy"), atom(0, "yz"), notAtom(2, "yy"))),
		"2 by not 3, 3 by 2":          program(twoNotThree, threeAsTwo),
		"3 by 2, 2 by not 3":          program(threeAsTwo, twoNotThree),
		"2 by 3, 3 by not 2":          program(twoAsThree, threeNotTwo),
		"2 by not 3, 3 by not 2":      program(twoNotThree, threeNotTwo),
		"a cycle among other rules":   program(ruleOf(atom(2, "xy"), xy), threeNotTwo, ruleOf(atom(3, "xy"), atom(1, "xy")), twoAsThree, ruleOf(atom(2, "xx"), xy), ruleOf(atom(3, "yx"), xy)),
		"a cycle in the last rule":    append(closureRules(), ruleOf(atom(2, "xy"), xy, notAtom(1, "xy")), ruleOf(atom(3, "xy"), xy, notAtom(3, "xy"))),
		"2 by not 2, 3 by not 2":      program(ruleOf(atom(2, "xy"), xy, notAtom(2, "xy")), threeNotTwo),
		"both by their own negations": program(ruleOf(atom(2, "xy"), xy, notAtom(2, "xy")), ruleOf(atom(3, "xy"), xy, notAtom(3, "xy"))),
	}
}

func expectStrata(t *testing.T, what string, rules []impl.Rule, want []int) {
	t.Helper()
	expectInts(t, "Strata: "+what, impl.Strata(rules), want)
	expectBool(t, "ValidProgram: "+what, impl.ValidProgram(rules), len(want) > 0)
}

// expectNoProgram expects what the document says of an invalid program.
func expectNoProgram(t *testing.T, what string, rules []impl.Rule) {
	t.Helper()
	expectStrata(t, what, rules, nil)
	for _, facts := range [][]impl.Entry{nil, allFacts(0), allFacts(0, 1, 2, 3)} {
		expectZSet(t, "Consequences: "+what, impl.Consequences(rules, facts), nil)
		expectZSet(t, "EvalProgram: "+what, impl.EvalProgram(rules, facts), nil)
	}
}

func TestP67LimitsOfPrograms(t *testing.T) {
	got := []int{impl.MaxPred, impl.FirstDerived, impl.MaxVariable, impl.MaxConstant, impl.MaxBody, impl.MaxRules}
	expectInts(t, "the limits", got, []int{3, 2, 3, 5, 3, 6})
	rules := slices.Repeat(closureRules(), 3)
	expectStrata(t, "the most rules", rules, []int{0, 0, 0, 0})
	for _, n := range []int{1, 2, 100} {
		more := append(slices.Clone(rules), slices.Repeat(closureRules()[:1], n)...)
		expectNoProgram(t, fmt.Sprintf("%d rules too many", n), more)
	}
}

func TestP67ValidRules(t *testing.T) {
	xy := atom(0, "xy")
	rules := map[string]impl.Rule{
		"one atom":                        ruleOf(atom(2, "xy"), xy),
		"the longest body":                ruleOf(atom(2, "xy"), xy, xy, xy),
		"the first derived predicate":     ruleOf(atom(impl.FirstDerived, "xy"), xy),
		"the last predicate":              ruleOf(atom(impl.MaxPred, "xy"), xy),
		"the last predicate in the body":  ruleOf(atom(2, "xy"), atom(impl.MaxPred, "xy")),
		"the last variable":               ruleOf(atom(2, "ww"), atom(0, "ww")),
		"the head has one variable twice": ruleOf(atom(2, "yy"), xy),
		"all variables":                   ruleOf(atom(2, "xw"), xy, atom(1, "zw")),
		"a variable of no head":           ruleOf(atom(2, "xx"), atom(0, "xz")),
		"a variable occurs later":         ruleOf(atom(2, "xy"), notAtom(0, "xy"), atom(1, "xy")),
		"variables of different atoms":    ruleOf(atom(2, "xy"), notAtom(0, "yx"), atom(1, "xx"), atom(0, "yy")),
		"two negated atoms":               ruleOf(atom(2, "xy"), notAtom(0, "xy"), notAtom(1, "xy"), xy),
		"an atom and its negation":        ruleOf(atom(2, "xy"), xy, notAtom(0, "xy")),
	}
	for name, rule := range rules {
		expectBool(t, "the reference: "+name, isRuleByDefinition(rule), true)
		expectBool(t, "ValidProgram: "+name, impl.ValidProgram(program(rule)), true)
	}
	expectStrata(t, "no rules", nil, []int{0, 0, 0, 0})
	expectStrata(t, "an empty list of rules", program(), []int{0, 0, 0, 0})
	expectStrata(t, "a negated atom of the last predicate", program(ruleOf(atom(2, "xy"), xy, notAtom(impl.MaxPred, "xy"))), []int{0, 0, 1, 0})
}

func TestP67InvalidRules(t *testing.T) {
	valid := closureRules()
	for name, rule := range invalidRules() {
		expectBool(t, "the reference: "+name, isRuleByDefinition(rule), false)
		expectNoProgram(t, name, program(rule))
		expectNoProgram(t, "first: "+name, append(program(rule), valid...))
		expectNoProgram(t, "last: "+name, append(slices.Clone(valid), rule))
	}
}

func TestP67RandomRules(t *testing.T) {
	r := newRandom()
	counts := map[bool]int{}
	randomAtom := func() impl.Atom {
		a := impl.Atom{Pred: r.IntN(predCount), X: r.IntN(variableCount), Y: r.IntN(variableCount), Not: r.IntN(4) == 0}
		if r.IntN(30) == 0 {
			*randomOf(r, []*int{&a.Pred, &a.X, &a.Y}) = randomOf(r, []int{-1, 4})
		}
		return a
	}
	for range 5000 {
		rule := impl.Rule{Head: randomAtom()}
		for range r.IntN(impl.MaxBody + 2) {
			rule.Body = append(rule.Body, randomAtom())
		}
		isValid := isRuleByDefinition(rule) && leastNumbers(program(rule)) != nil
		expectBool(t, fmt.Sprint("ValidProgram ", rule), impl.ValidProgram(program(rule)), isValid)
		counts[isValid]++
	}
	if counts[true] < 200 || counts[false] < 200 {
		t.Errorf("%d rules are valid, %d are not", counts[true], counts[false])
	}
}

func TestP67StrataOfPrograms(t *testing.T) {
	xy := atom(0, "xy")
	twoNotOne, threeNotTwo := ruleOf(atom(2, "xy"), xy, notAtom(1, "xy")), ruleOf(atom(3, "xy"), xy, notAtom(2, "xy"))
	cases := []struct {
		name  string
		rules []impl.Rule
		want  []int
	}{
		{"the closure", closureRules(), []int{0, 0, 0, 0}},
		{"two predicates in turn", program(ruleOf(atom(2, "xy"), atom(3, "xy")), ruleOf(atom(3, "xy"), atom(2, "xy"))), []int{0, 0, 0, 0}},
		{"a negated given predicate", program(twoNotOne), []int{0, 0, 1, 0}},
		{"a negated derived predicate without rules", program(threeNotTwo), []int{0, 0, 0, 1}},
		{"two negations", program(twoNotOne, threeNotTwo), []int{0, 0, 1, 2}},
		{"two negations, the last first", program(threeNotTwo, twoNotOne), []int{0, 0, 1, 2}},
		{"two negations downwards", program(ruleOf(atom(2, "xy"), xy, notAtom(3, "xy")), ruleOf(atom(3, "xy"), xy, notAtom(0, "yx"))), []int{0, 0, 2, 1}},
		{"above a negation", program(twoNotOne, ruleOf(atom(3, "xy"), atom(2, "xy"))), []int{0, 0, 1, 1}},
		{"above a negation, the last first", program(ruleOf(atom(3, "xy"), atom(2, "xy")), twoNotOne), []int{0, 0, 1, 1}},
		{"a cycle above a negation", program(ruleOf(atom(2, "xy"), atom(3, "xy")), ruleOf(atom(3, "xy"), atom(2, "xy")), ruleOf(atom(3, "xy"), xy, notAtom(1, "xy"))), []int{0, 0, 1, 1}},
		{"a loop above two negations", program(ruleOf(atom(3, "xz"), atom(3, "xy"), atom(3, "yz")), threeNotTwo, twoNotOne), []int{0, 0, 1, 2}},
		{"two negated atoms of a rule", program(ruleOf(atom(3, "xy"), xy, notAtom(1, "xy"), notAtom(2, "xy"))), []int{0, 0, 0, 1}},
		{"a rule that asks for less comes last", program(threeNotTwo, ruleOf(atom(3, "xy"), xy)), []int{0, 0, 0, 1}},
	}
	for _, c := range cases {
		expectStrata(t, c.name, c.rules, c.want)
	}
	for name, rules := range unstratifiedPrograms() {
		expectNoProgram(t, name, rules)
	}
}

// allDependencies has a rule for each way in which a head depends on a predicate.
func allDependencies() []impl.Rule {
	var rules []impl.Rule
	for head := impl.FirstDerived; head <= impl.MaxPred; head++ {
		for pred := range predCount {
			rules = append(rules,
				ruleOf(atom(head, "xy"), atom(pred, "xy")),
				ruleOf(atom(head, "xy"), atom(0, "xy"), notAtom(pred, "xy")))
		}
	}
	return rules
}

func TestP67StrataOfAllDependencies(t *testing.T) {
	rules := allDependencies()
	counts := map[bool]int{}
	for bits := range 1 << len(rules) {
		var chosen []impl.Rule
		for i, rule := range rules {
			if bits>>i&1 == 1 {
				chosen = append(chosen, rule)
			}
		}
		if len(chosen) > 4 {
			continue
		}
		want := leastNumbers(chosen)
		expectStrata(t, fmt.Sprint(chosen), chosen, want)
		counts[want != nil]++
	}
	if counts[true] < 100 || counts[false] < 100 {
		t.Errorf("%d programs are stratified, %d are not", counts[true], counts[false])
	}
}

func TestP67StrataRespectTheRules(t *testing.T) {
	r := newRandom()
	greatest := map[int]int{}
	for range 2000 {
		rules := randomRules(r, impl.MaxBody-1)
		what := fmt.Sprint(rules)
		want := leastNumbers(rules)
		expectStrata(t, what, rules, want)
		numbers := impl.Strata(rules)
		if len(numbers) == 0 {
			continue
		}
		greatest[slices.Max(numbers)]++
		expectBool(t, "the numbers are right: "+what, respects(rules, numbers), true)
		for pred := range predCount {
			isHead := slices.ContainsFunc(rules, func(rule impl.Rule) bool { return rule.Head.Pred == pred })
			if !isHead && numbers[pred] != 0 {
				t.Errorf("Strata %s = %v, but %d is no head", what, numbers, pred)
			}
		}
	}
	if greatest[0] < 10 || greatest[1] < 10 || greatest[2] < 10 {
		t.Errorf("so many programs have each number of strata: %v", greatest)
	}
}

// invalidFacts has a list for each way not to be facts.
func invalidFacts() map[string][]impl.Entry {
	lists := map[string][]impl.Entry{
		"rows descend":      zset(entry(1, 1, 2, 0), entry(1, 0, 5, 5)),
		"a row twice":       zset(entry(1, 1, 2, 3), entry(1, 1, 2, 3)),
		"rows of one":       zset(entry(1, 1), entry(1, 2)),
		"rows of two":       zset(entry(1, 0, 1), entry(1, 0, 2)),
		"rows of four":      zset(entry(1, 0, 1, 2, 3)),
		"widths differ":     zset(entry(1, 0, 1, 2), entry(1, 0, 2)),
		"wider at last":     zset(entry(1, 0, 1, 2), entry(1, 0, 1, 2, 3)),
		"entries once more": append(allFacts(0, 1, 2, 3), allFacts(0, 1, 2, 3)...),
	}
	for _, weight := range []int{0, -1, 2, impl.MaxWeight, impl.MaxWeight + 1, math.MaxInt, math.MinInt} {
		lists[fmt.Sprint("first weight ", weight)] = zset(entry(weight, 0, 1, 2), entry(1, 2, 0, 3))
		lists[fmt.Sprint("last weight ", weight)] = zset(entry(1, 0, 1, 2), entry(weight, 2, 0, 3))
	}
	for _, pred := range append(extremeNumbers(impl.MaxPred), -impl.MaxValue, impl.MaxValue) {
		lists[fmt.Sprint("predicate ", pred)] = zset(entry(1, pred, 0, 0))
		lists[fmt.Sprint("among others predicate ", pred)] = sumOf(zset(entry(1, 1, 0, 0), entry(1, pred, 0, 0)))
	}
	for _, constant := range append(extremeNumbers(impl.MaxConstant), -impl.MaxValue, impl.MaxValue) {
		lists[fmt.Sprint("first constant ", constant)] = zset(entry(1, 0, constant, 1))
		lists[fmt.Sprint("second constant ", constant)] = zset(entry(1, 0, 1, constant))
		lists[fmt.Sprint("among others first constant ", constant)] = sumOf(zset(entry(1, 1, 2, 3), entry(1, 1, constant, 1)))
		lists[fmt.Sprint("among others second constant ", constant)] = sumOf(zset(entry(1, 1, 2, 3), entry(1, 1, 2, constant)))
	}
	for name, z := range invalidZSets() {
		lists["not a Z-set: "+name] = z
	}
	return lists
}

func TestP68ValidFacts(t *testing.T) {
	r := newRandom()
	for range 300 {
		facts := randomFacts(r)
		expectBool(t, fmt.Sprint("ValidFacts ", facts), impl.ValidFacts(facts), true)
	}
	for _, facts := range [][]impl.Entry{nil, {}, allFacts(0, 1, 2, 3), factList([3]int{impl.MaxPred, impl.MaxConstant, impl.MaxConstant}), factList([3]int{0, 0, 0})} {
		expectBool(t, fmt.Sprint("ValidFacts ", facts), impl.ValidFacts(facts), true)
	}
	for name, facts := range invalidFacts() {
		expectBool(t, "ValidFacts: "+name, impl.ValidFacts(facts), false)
	}
}

func TestP68InvalidFacts(t *testing.T) {
	everything := program(ruleOf(atom(2, "xy"), atom(0, "xy")), ruleOf(atom(2, "xy"), atom(1, "xy")), ruleOf(atom(3, "xy"), atom(2, "xy")))
	for name, facts := range invalidFacts() {
		for _, rules := range [][]impl.Rule{nil, closureRules(), everything} {
			expectZSet(t, "EvalProgram: "+name, impl.EvalProgram(rules, facts), nil)
			expectZSet(t, "Consequences: "+name, impl.Consequences(rules, facts), nil)
		}
	}
}

func TestP68Programs(t *testing.T) {
	for _, c := range namedPrograms() {
		expectZSet(t, "EvalProgram: "+c.name, impl.EvalProgram(c.rules, c.facts), unionOfSets(c.facts, c.want))
	}
}

func TestP68EvaluationReachesAFixpoint(t *testing.T) {
	derived := 0
	for _, c := range someDatalogCases(1500, isAnyProgram) {
		what := fmt.Sprint("EvalProgram ", c)
		all := impl.EvalProgram(c.rules, c.facts)
		expectZSet(t, what, all, evaluatedProgram(c.rules, c.facts))
		expectBool(t, what+" contains the facts", isPartOf(c.facts, all), true)
		expectBool(t, what+" contains what follows", isPartOf(impl.Consequences(c.rules, all), all), true)
		if isPositive(c.rules) {
			expectZSet(t, what+" once more", impl.EvalProgram(c.rules, all), all)
		}
		expectBool(t, what+" are facts", impl.ValidFacts(all), true)
		derived += len(all) - len(c.facts)
	}
	if derived < 1000 {
		t.Errorf("only %d facts are derived", derived)
	}
}

func TestP68TheOrderOfRulesAndAtomsDoesNotMatter(t *testing.T) {
	r := newRandom()
	for _, c := range someDatalogCases(500, isAnyProgram) {
		var rules []impl.Rule
		for _, i := range r.Perm(len(c.rules)) {
			var body []impl.Atom
			for _, j := range r.Perm(len(c.rules[i].Body)) {
				body = append(body, c.rules[i].Body[j])
			}
			rules = append(rules, ruleOf(c.rules[i].Head, body...))
		}
		expectZSet(t, fmt.Sprintf("EvalProgram %v as %v", c, rules), impl.EvalProgram(rules, c.facts), impl.EvalProgram(c.rules, c.facts))
		expectZSet(t, fmt.Sprintf("Consequences %v as %v", c, rules), impl.Consequences(rules, c.facts), impl.Consequences(c.rules, c.facts))
	}
}

// TestP68NegationOfDerivedFacts compares with the closure: predicate 3 has the pairs without a path.
func TestP68NegationOfDerivedFacts(t *testing.T) {
	rules := append(program(ruleOf(atom(3, "xy"), notAtom(2, "xy"), atom(1, "xx"), atom(1, "yy"))), closureRules()...)
	var vertices []impl.Entry
	for x := range constantCount {
		vertices = append(vertices, entry(1, 1, x, x))
	}
	r := newRandom()
	for range 300 {
		edges := partOf(r, allPairs(constantCount))
		closed := distancesOf(edges).all()
		want := slices.Concat(factsOf(0, edges), vertices, factsOf(2, closed), factsOf(3, setMinus(allPairs(constantCount), closed)))
		expectZSet(t, fmt.Sprint("the pairs without a path: ", edges), impl.EvalProgram(rules, append(factsOf(0, edges), vertices...)), want)
	}
}

func TestP68TheMostFacts(t *testing.T) {
	rules := program(
		ruleOf(atom(2, "xw"), atom(0, "xy"), atom(0, "yz"), atom(1, "zw")),
		ruleOf(atom(3, "xw"), atom(0, "xy"), atom(1, "zw"), atom(0, "yz")),
	)
	expectZSet(t, "EvalProgram of all facts", impl.EvalProgram(rules, allFacts(0, 1, 2, 3)), allFacts(0, 1, 2, 3))
	expectZSet(t, "EvalProgram of all given facts", impl.EvalProgram(rules, allFacts(0, 1)), allFacts(0, 1, 2, 3))
	expectZSet(t, "Consequences of all facts", impl.Consequences(rules, allFacts(0, 1, 2, 3)), allFacts(2, 3))
}

func TestP69PositiveProgramsAreMonotone(t *testing.T) {
	r := newRandom()
	for _, c := range someDatalogCases(2000, isPositive) {
		what := fmt.Sprint("EvalProgram ", c)
		more := unionOfSets(c.facts, randomFacts(r))
		all, allOfMore := impl.EvalProgram(c.rules, c.facts), impl.EvalProgram(c.rules, more)
		expectZSet(t, what, allOfMore, evaluatedProgram(c.rules, more))
		expectBool(t, fmt.Sprintf("%s is in that of %v", what, more), isPartOf(all, allOfMore), true)
		expectBool(t, what+" contains what follows", isPartOf(impl.Consequences(c.rules, all), all), true)
	}
}

func TestP69NegationIsNotMonotone(t *testing.T) {
	rules := program(ruleOf(atom(2, "xy"), atom(0, "xy"), notAtom(1, "xy")))
	few, more := factList([3]int{0, 1, 2}), factList([3]int{0, 1, 2}, [3]int{1, 1, 2})
	expectZSet(t, "EvalProgram of few facts", impl.EvalProgram(rules, few), factList([3]int{0, 1, 2}, [3]int{2, 1, 2}))
	expectZSet(t, "EvalProgram of more facts", impl.EvalProgram(rules, more), more)
}

func TestP70RulesCanBeAddedLater(t *testing.T) {
	r := newRandom()
	later := 0
	for _, c := range someDatalogCases(2000, isPositive) {
		var some []impl.Rule
		for _, rule := range c.rules {
			if r.IntN(2) == 0 {
				some = append(some, rule)
			}
		}
		all, first := impl.EvalProgram(c.rules, c.facts), impl.EvalProgram(some, c.facts)
		expectZSet(t, fmt.Sprintf("EvalProgram %v after the rules %v", c, some), impl.EvalProgram(c.rules, first), all)
		later += len(all) - len(first)
	}
	if later < 500 {
		t.Errorf("only %d facts follow by the rules added later", later)
	}
}

func TestP71DatalogExpressesTheClosure(t *testing.T) {
	r := newRandom()
	graphs := [][]impl.Entry{nil, allPairs(constantCount), cycleOf(0, impl.MaxConstant), lineOf(0, impl.MaxConstant)}
	for bits := range 1 << 9 {
		graphs = append(graphs, pairsOf(3, bits))
	}
	for range 500 {
		graphs = append(graphs, partOf(r, allPairs(constantCount)))
	}
	reversed := program(
		ruleOf(atom(2, "wx"), atom(0, "yx"), atom(2, "wy")),
		ruleOf(atom(2, "zw"), atom(0, "zw")),
	)
	squared := program(closureRules()[0], ruleOf(atom(2, "xz"), atom(2, "xy"), atom(2, "yz")))
	for _, edges := range graphs {
		for _, rules := range [][]impl.Rule{closureRules(), reversed, squared} {
			all := impl.EvalProgram(rules, factsOf(0, edges))
			what := fmt.Sprintf("EvalProgram(%v, %v)", rules, edges)
			expectZSet(t, what, pairsFor(2, all), impl.Closure(edges))
			expectZSet(t, what, all, append(factsOf(0, edges), factsOf(2, distancesOf(edges).all())...))
		}
	}
}

func TestP72Consequences(t *testing.T) {
	edges := factList([3]int{0, 1, 2}, [3]int{0, 2, 3}, [3]int{0, 4, 4})
	twoStrata := program(ruleOf(atom(2, "xy"), atom(0, "xy")), ruleOf(atom(3, "xy"), atom(0, "xy"), notAtom(2, "xy")))
	cases := []struct {
		name        string
		rules       []impl.Rule
		facts, want []impl.Entry
	}{
		{"no rules", nil, allFacts(0, 1, 2, 3), nil},
		{"no facts", closureRules(), nil, nil},
		{"one application only", closureRules(), edges, factList([3]int{2, 1, 2}, [3]int{2, 2, 3}, [3]int{2, 4, 4})},
		{"facts that are there already", closureRules(), append(slices.Clone(edges), factList([3]int{2, 1, 2}, [3]int{2, 5, 5})...),
			factList([3]int{2, 1, 2}, [3]int{2, 1, 3}, [3]int{2, 2, 3}, [3]int{2, 4, 4})},
		{"a derived fact that does not follow", closureRules(), factList([3]int{2, 1, 2}, [3]int{3, 1, 2}), nil},
		{"the negated predicate is not derived first", twoStrata, factList([3]int{0, 1, 2}), factList([3]int{2, 1, 2}, [3]int{3, 1, 2})},
		{"a given fact that is negated", twoStrata, factList([3]int{0, 1, 2}, [3]int{2, 1, 2}), factList([3]int{2, 1, 2})},
		{"a variable twice in an atom", program(ruleOf(atom(2, "xx"), atom(0, "xx"))), edges, factList([3]int{2, 4, 4})},
		{"a variable twice in a negated atom", program(ruleOf(atom(2, "xy"), atom(0, "xy"), notAtom(0, "yy"))), edges, factList([3]int{2, 1, 2}, [3]int{2, 2, 3})},
		{"several rules for one fact", program(ruleOf(atom(2, "xx"), atom(0, "xy")), ruleOf(atom(2, "yy"), atom(0, "xy"))), edges,
			factList([3]int{2, 1, 1}, [3]int{2, 2, 2}, [3]int{2, 3, 3}, [3]int{2, 4, 4})},
	}
	for _, c := range cases {
		expectZSet(t, "Consequences: "+c.name, impl.Consequences(c.rules, c.facts), c.want)
	}
}

func TestP72ConsequencesAreThoseOfOneApplication(t *testing.T) {
	for _, c := range someDatalogCases(2000, isAnyProgram) {
		what := fmt.Sprint("Consequences ", c)
		following := impl.Consequences(c.rules, c.facts)
		expectZSet(t, what, following, tableOf(c.facts).following(c.rules).entries())
		isGiven := func(e impl.Entry) bool { return e.Row[0] < impl.FirstDerived }
		expectBool(t, what+" has given predicates", slices.ContainsFunc(following, isGiven), false)
	}
}

func TestP72ConsequencesAreMonotoneWithoutNegation(t *testing.T) {
	r := newRandom()
	for _, c := range someDatalogCases(3000, isPositive) {
		part := partOf(r, c.facts)
		whole := impl.Consequences(c.rules, c.facts)
		expectBool(t, fmt.Sprintf("Consequences %v contains those of %v", c, part), isPartOf(impl.Consequences(c.rules, part), whole), true)
		expectBool(t, fmt.Sprintf("Consequences %v are facts", c), impl.ValidFacts(whole), true)
	}
}

func TestDatalogFunctionsReturnNewMemory(t *testing.T) {
	for _, c := range namedPrograms() {
		expectFresh(t, "Strata: "+c.name, impl.Strata, c.rules)
		if len(c.facts) > 0 {
			expectFresh(t, "EvalProgram: "+c.name, impl.EvalProgram, c.rules, c.facts)
		}
		if len(c.want) > 0 {
			expectFresh(t, "Consequences: "+c.name, impl.Consequences, c.rules, c.facts)
		}
	}
}
