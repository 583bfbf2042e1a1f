package tests

import (
	"fmt"
	"math/rand/v2"
	"reflect"
	"slices"
	"testing"

	"loop.example/dataflow/impl"
)

func sameNode(a impl.Node, b impl.Node) bool {
	sameCols := slices.Equal(a.Cols, b.Cols)
	a.Cols, b.Cols = nil, nil
	return sameCols && reflect.DeepEqual(a, b)
}

func expectPlan(t *testing.T, what string, got []impl.Node, want []impl.Node) {
	t.Helper()
	if !slices.EqualFunc(got, want, sameNode) {
		t.Errorf("%s = %v, want %v", what, got, want)
	}
}

func source(input int) impl.Node {
	return impl.Node{Kind: impl.Source, A: input}
}

func filterOf(a int, p impl.Predicate) impl.Node {
	return impl.Node{Kind: impl.FilterNode, A: a, Pred: p}
}

func mapOf(a int, cols ...int) impl.Node {
	return impl.Node{Kind: impl.MapNode, A: a, Cols: cols}
}

func unionOf(a int, b int) impl.Node {
	return impl.Node{Kind: impl.UnionNode, A: a, B: b}
}

func negateOf(a int) impl.Node {
	return impl.Node{Kind: impl.NegateNode, A: a}
}

func joinOf(a int, b int, key int) impl.Node {
	return impl.Node{Kind: impl.JoinNode, A: a, B: b, Key: key}
}

func distinctNodeOf(a int) impl.Node {
	return impl.Node{Kind: impl.DistinctNode, A: a}
}

func reduceOf(a int, key int, agg int, col int) impl.Node {
	return impl.Node{Kind: impl.ReduceNode, A: a, Key: key, Agg: agg, Col: col}
}

// argumentsOf returns the earlier nodes that a node refers to.
func argumentsOf(n impl.Node) []int {
	switch n.Kind {
	case impl.Source:
		return nil
	case impl.UnionNode, impl.JoinNode:
		return []int{n.A, n.B}
	}
	return []int{n.A}
}

// renumbered returns a node with the references to earlier nodes changed.
func renumbered(n impl.Node, places map[int]int) impl.Node {
	if n.Kind != impl.Source {
		n.A = places[n.A]
	}
	if n.Kind == impl.UnionNode || n.Kind == impl.JoinNode {
		n.B = places[n.B]
	}
	return n
}

// upTo is the reference for pruning: it returns the plan of what the node i of a list needs.
func upTo(list []impl.Node, i int) []impl.Node {
	needed := map[int]bool{}
	var need func(i int)
	need = func(i int) {
		needed[i] = true
		for _, argument := range argumentsOf(list[i]) {
			need(argument)
		}
	}
	need(i)
	places := map[int]int{}
	var result []impl.Node
	for k, n := range list {
		if needed[k] {
			places[k] = len(result)
			result = append(result, renumbered(n, places))
		}
	}
	return result
}

// treeOf writes a node with all that it depends on, so that equal texts are equal nodes after sharing.
func treeOf(list []impl.Node, i int) string {
	n := list[i]
	text := fmt.Sprint(n.Kind, n.Key, n.Cols, n.Pred, n.Agg, n.Col)
	if n.Kind == impl.Source {
		return fmt.Sprint(text, n.A)
	}
	for _, argument := range argumentsOf(n) {
		text += "(" + treeOf(list, argument) + ")"
	}
	return text
}

// shared is the reference for SharePlan: the first node with a tree stands for all nodes with this tree.
func shared(list []impl.Node) []impl.Node {
	first := map[string]int{}
	standIns := map[int]int{}
	var changed []impl.Node
	for i, n := range list {
		tree := treeOf(list, i)
		if _, ok := first[tree]; !ok {
			first[tree] = i
		}
		standIns[i] = first[tree]
		changed = append(changed, renumbered(n, standIns))
	}
	return upTo(changed, standIns[len(list)-1])
}

// simplified is the reference for SimplifyPlan.
func simplified(list []impl.Node, widths []int) []impl.Node {
	nodeWidths := widthsOf(list, widths)
	standIns := map[int]int{}
	var changed []impl.Node
	for i, n := range list {
		n = renumbered(n, standIns)
		standIns[i] = i
		if n.Kind != impl.Source {
			a := changed[n.A]
			isDouble := a.Kind == n.Kind
			switch {
			case n.Kind == impl.MapNode && slices.Equal(n.Cols, upward(nodeWidths[n.A])):
				standIns[i] = n.A
			case n.Kind == impl.MapNode && isDouble:
				var cols []int
				for _, col := range n.Cols {
					cols = append(cols, a.Cols[col])
				}
				n = mapOf(a.A, cols...)
			case n.Kind == impl.NegateNode && isDouble:
				standIns[i] = a.A
			case n.Kind == impl.DistinctNode && isDouble:
				standIns[i] = n.A
			}
		}
		changed = append(changed, n)
	}
	return upTo(changed, standIns[len(list)-1])
}

// upward returns 0, 1, .. n-1.
func upward(n int) []int {
	var list []int
	for i := range n {
		list = append(list, i)
	}
	return list
}

// randomRepetitiveNode returns a node for which a rule often applies: an equal one, or one of a kind for which there are rules.
func randomRepetitiveNode(r *rand.Rand, list []impl.Node, inputs []int, nodes []int) impl.Node {
	if len(list) == 0 || r.IntN(6) == 0 {
		return randomNode(r, inputs, nodes)
	}
	a, b := recent(r, len(list)), recent(r, len(list))
	switch r.IntN(8) {
	case 0, 1:
		return list[a]
	case 2:
		return mapOf(a, upward(nodes[a])...)
	case 3:
		return mapOf(a, randomColumns(r, nodes[a])...)
	case 4:
		return distinctNodeOf(a)
	case 5, 6:
		return unionOf(a, b)
	default:
		return negateOf(a)
	}
}

// recent returns the index of one of the last nodes.
func recent(r *rand.Rand, length int) int {
	return between(r, max(0, length-3), length-1)
}

// randomRepetitivePlan returns a valid plan in which nodes are often equal, double or not used.
func randomRepetitivePlan(r *rand.Rand, n int, inputs []int) []impl.Node {
	var list []impl.Node
	var nodes []int
	for len(list) < n {
		node := randomRepetitiveNode(r, list, inputs, nodes)
		if width, ok := widthOfNode(node, inputs, nodes); ok {
			list, nodes = append(list, node), append(nodes, width)
		}
	}
	return list
}

// rewriteCase is a plan with small inputs, for which every value can be represented.
type rewriteCase struct {
	plan   []impl.Node
	widths []int
	inputs [][]impl.Entry
	values [][]impl.Entry
}

func (c rewriteCase) String() string {
	return fmt.Sprintf("(%v, %v) for %v", c.plan, c.widths, c.inputs)
}

func (c rewriteCase) cost() int {
	cost := 0
	for _, value := range c.values {
		cost += len(value)
	}
	return cost
}

func randomRewriteCase(r *rand.Rand) rewriteCase {
	for {
		widths := randomWidths(r)
		c := rewriteCase{widths: widths, plan: randomRepetitivePlan(r, between(r, 1, impl.MaxNodes), widths), inputs: randomZSets(r, widths)}
		values, tooLarge := evaluated(c.plan, c.inputs)
		if tooLarge == 0 {
			c.values = values
			return c
		}
	}
}

// expectSameResult expects a valid plan that has the result of the case and costs no more.
func expectSameResult(t *testing.T, what string, c rewriteCase, got []impl.Node) {
	t.Helper()
	if len(got) == 0 || len(got) > len(c.plan) || len(impl.PlanWidths(got, c.widths)) != len(got) {
		t.Fatalf("%s = %v, which is not a valid plan with as many nodes at most", what, got)
	}
	expectZSet(t, "the result of "+what, impl.EvalPlan(got, c.widths, c.inputs), c.values[len(c.plan)-1])
	if cost := impl.PlanCost(got, c.widths, c.inputs); cost < 0 || cost > c.cost() {
		t.Errorf("%s costs %d, the plan %d", what, cost, c.cost())
	}
}

// expectAllNeeded expects that each node but the last one is an argument of a later one.
func expectAllNeeded(t *testing.T, what string, list []impl.Node) {
	t.Helper()
	for i := range len(list) - 1 {
		if !slices.ContainsFunc(list[i+1:], func(n impl.Node) bool { return slices.Contains(argumentsOf(n), i) }) {
			t.Errorf("%s = %v does not need the node %d", what, list, i)
		}
	}
}

func TestP54PruningKeepsTheResult(t *testing.T) {
	r := newRandom()
	shorter := 0
	for range 2000 {
		c := randomRewriteCase(r)
		what := fmt.Sprint("PrunePlan", c)
		got := impl.PrunePlan(c.plan, c.widths)
		expectPlan(t, what, got, upTo(c.plan, len(c.plan)-1))
		expectSameResult(t, what, c, got)
		expectPlan(t, what+" again", impl.PrunePlan(got, c.widths), got)
		if len(got) < len(c.plan) {
			shorter++
		}
	}
	if shorter < 500 {
		t.Errorf("only %d plans become shorter", shorter)
	}
}

func TestP54PrunedPlans(t *testing.T) {
	less := predicate(1, impl.Less, 5)
	cases := []struct {
		name       string
		plan, want []impl.Node
	}{
		{"one node", plan(source(2)), plan(source(2))},
		{"all nodes are needed", plan(source(0), negateOf(0), unionOf(0, 1)), plan(source(0), negateOf(0), unionOf(0, 1))},
		{"the last node is a source", plan(source(0), negateOf(0), source(2)), plan(source(2))},
		{"the input of a source is no node", plan(source(0), source(1), source(2), negateOf(2)), plan(source(2), negateOf(0))},
		{"the first node is not used", plan(source(1), source(0), negateOf(1)), plan(source(0), negateOf(0))},
		{"nodes between are not used", plan(source(0), negateOf(0), distinctNodeOf(0), distinctNodeOf(1)), plan(source(0), negateOf(0), distinctNodeOf(1))},
		{"used by a node that is not used", plan(source(0), negateOf(0), negateOf(1), distinctNodeOf(0)), plan(source(0), distinctNodeOf(0))},
		{"a node is used twice", plan(source(1), source(0), unionOf(1, 1)), plan(source(0), unionOf(0, 0))},
		{"only B is indirectly used", plan(source(1), source(0), negateOf(1), unionOf(1, 2)), plan(source(0), negateOf(0), unionOf(0, 1))},
		{"B of a join comes first", plan(source(0), source(1), source(2), joinOf(2, 0, 1)), plan(source(0), source(2), joinOf(1, 0, 1))},
		{"equal nodes stay", plan(source(0), negateOf(0), negateOf(0), unionOf(1, 2)), plan(source(0), negateOf(0), negateOf(0), unionOf(1, 2))},
		{"fields stay", plan(source(1), source(0), filterOf(1, less), mapOf(2, 1, 0, 1), reduceOf(3, 1, impl.Maximum, 2)),
			plan(source(0), filterOf(0, less), mapOf(1, 1, 0, 1), reduceOf(2, 1, impl.Maximum, 2))},
		{"the longest plan", longestPlan(0), longestPlan(0)},
	}
	for _, c := range cases {
		expectPlan(t, "PrunePlan: "+c.name, impl.PrunePlan(c.plan, threeWidths()), c.want)
	}
}

func TestP55EveryNodeOfAPrunedPlanIsNeeded(t *testing.T) {
	r := newRandom()
	for range 2000 {
		c := randomRewriteCase(r)
		expectAllNeeded(t, fmt.Sprint("PrunePlan", c), impl.PrunePlan(c.plan, c.widths))
		expectAllNeeded(t, fmt.Sprint("SharePlan", c), impl.SharePlan(c.plan, c.widths))
		expectAllNeeded(t, fmt.Sprint("SimplifyPlan", c), impl.SimplifyPlan(c.plan, c.widths))
	}
}

func TestP56SharingRemovesEqualNodes(t *testing.T) {
	r := newRandom()
	fewer := 0
	for range 2000 {
		c := randomRewriteCase(r)
		what := fmt.Sprint("SharePlan", c)
		got := impl.SharePlan(c.plan, c.widths)
		expectPlan(t, what, got, shared(c.plan))
		expectPlan(t, what+" again", impl.SharePlan(got, c.widths), got)
		for i, n := range got {
			if slices.ContainsFunc(got[:i], func(other impl.Node) bool { return sameNode(n, other) }) {
				t.Errorf("%s = %v has the node %d twice", what, got, i)
			}
		}
		if len(got) < len(upTo(c.plan, len(c.plan)-1)) {
			fewer++
		}
	}
	if fewer < 100 {
		t.Errorf("only %d plans have fewer nodes than after pruning", fewer)
	}
}

func TestP56SharedPlans(t *testing.T) {
	less, greater := predicate(1, impl.Less, 5), predicate(1, impl.Greater, 5)
	emptyColumns := impl.Node{Kind: impl.NegateNode, Cols: []int{}}
	cases := []struct {
		name       string
		plan, want []impl.Node
	}{
		{"one node", plan(source(2)), plan(source(2))},
		{"equal sources", plan(source(0), source(0), unionOf(0, 1)), plan(source(0), unionOf(0, 0))},
		{"different sources", plan(source(0), source(2), unionOf(0, 1)), plan(source(0), source(2), unionOf(0, 1))},
		{"the last node equals an earlier one", plan(source(0), negateOf(0), distinctNodeOf(1), negateOf(0)), plan(source(0), negateOf(0))},
		{"the last node equals the first one", plan(source(0), negateOf(0), source(0)), plan(source(0))},
		{"three equal nodes", plan(source(0), negateOf(0), negateOf(0), negateOf(0), unionOf(2, 3)), plan(source(0), negateOf(0), unionOf(1, 1))},
		{"equal after references are replaced", plan(source(0), source(0), negateOf(0), negateOf(1), distinctNodeOf(2), distinctNodeOf(3), unionOf(4, 5)),
			plan(source(0), negateOf(0), distinctNodeOf(1), unionOf(2, 2))},
		{"B is replaced", plan(source(0), source(2), source(2), unionOf(0, 1), unionOf(0, 2), unionOf(3, 4)), plan(source(0), source(2), unionOf(0, 1), unionOf(2, 2))},
		{"A and B exchanged", plan(source(0), source(2), unionOf(0, 1), unionOf(1, 0), unionOf(2, 3)), plan(source(0), source(2), unionOf(0, 1), unionOf(1, 0), unionOf(2, 3))},
		{"the first equal node is not used otherwise", plan(source(0), negateOf(0), source(2), negateOf(0), unionOf(2, 3)), plan(source(0), negateOf(0), source(2), unionOf(2, 1))},
		{"different kinds", plan(source(0), negateOf(0), distinctNodeOf(0), unionOf(1, 2)), plan(source(0), negateOf(0), distinctNodeOf(0), unionOf(1, 2))},
		{"a source and a node of the same index", plan(source(0), source(1), negateOf(1), source(2), negateOf(3), joinOf(2, 4, 1)), plan(source(1), negateOf(0), source(2), negateOf(2), joinOf(1, 3, 1))},
		{"equal predicates", plan(source(0), filterOf(0, less), filterOf(0, less), unionOf(1, 2)), plan(source(0), filterOf(0, less), unionOf(1, 1))},
		{"different predicates", plan(source(0), filterOf(0, less), filterOf(0, greater), unionOf(1, 2)), plan(source(0), filterOf(0, less), filterOf(0, greater), unionOf(1, 2))},
		{"equal columns", plan(source(0), mapOf(0, 1, 0), mapOf(0, 1, 0), unionOf(1, 2)), plan(source(0), mapOf(0, 1, 0), unionOf(1, 1))},
		{"different columns", plan(source(0), mapOf(0, 1, 0), mapOf(0, 1, 1), unionOf(1, 2)), plan(source(0), mapOf(0, 1, 0), mapOf(0, 1, 1), unionOf(1, 2))},
		{"no columns and empty columns", plan(source(0), negateOf(0), emptyColumns, unionOf(1, 2)), plan(source(0), negateOf(0), unionOf(1, 1))},
		{"different keys of joins", plan(source(0), joinOf(0, 0, 1), joinOf(0, 0, 2), mapOf(1, 0, 1), unionOf(2, 3)), plan(source(0), joinOf(0, 0, 1), joinOf(0, 0, 2), mapOf(1, 0, 1), unionOf(2, 3))},
		{"different aggregates", plan(source(0), reduceOf(0, 1, impl.Count, 0), reduceOf(0, 1, impl.Sum, 0), unionOf(1, 2)),
			plan(source(0), reduceOf(0, 1, impl.Count, 0), reduceOf(0, 1, impl.Sum, 0), unionOf(1, 2))},
		{"different aggregated columns", plan(source(0), reduceOf(0, 1, impl.Sum, 0), reduceOf(0, 1, impl.Sum, 1), unionOf(1, 2)),
			plan(source(0), reduceOf(0, 1, impl.Sum, 0), reduceOf(0, 1, impl.Sum, 1), unionOf(1, 2))},
		{"double nodes stay", plan(source(0), negateOf(0), negateOf(1)), plan(source(0), negateOf(0), negateOf(1))},
		{"the longest plan", longestPlan(0), longestPlan(0)},
	}
	for _, c := range cases {
		expectPlan(t, "SharePlan: "+c.name, impl.SharePlan(c.plan, threeWidths()), c.want)
	}
}

func TestP57SharingKeepsTheResult(t *testing.T) {
	r := newRandom()
	cheaper := 0
	for range 2000 {
		c := randomRewriteCase(r)
		got := impl.SharePlan(c.plan, c.widths)
		expectSameResult(t, fmt.Sprint("SharePlan", c), c, got)
		if impl.PlanCost(got, c.widths, c.inputs) < impl.PlanCost(upTo(c.plan, len(c.plan)-1), c.widths, c.inputs) {
			cheaper++
		}
	}
	if cheaper < 50 {
		t.Errorf("only %d plans become cheaper by more than pruning", cheaper)
	}
}

func TestP58SimplificationKeepsTheResult(t *testing.T) {
	r := newRandom()
	cheaper := 0
	for range 2000 {
		c := randomRewriteCase(r)
		what := fmt.Sprint("SimplifyPlan", c)
		got := impl.SimplifyPlan(c.plan, c.widths)
		expectPlan(t, what, got, simplified(c.plan, c.widths))
		expectSameResult(t, what, c, got)
		if impl.PlanCost(got, c.widths, c.inputs) < impl.PlanCost(upTo(c.plan, len(c.plan)-1), c.widths, c.inputs) {
			cheaper++
		}
	}
	if cheaper < 500 {
		t.Errorf("only %d plans become cheaper by more than pruning", cheaper)
	}
}

func TestP58SimplifiedPlans(t *testing.T) {
	cases := []struct {
		name       string
		plan, want []impl.Node
	}{
		{"one node", plan(source(2)), plan(source(2))},
		{"all columns in order", plan(source(1), mapOf(0, 0, 1, 2)), plan(source(1))},
		{"all columns in order of one column", plan(source(0), reduceOf(0, 0, impl.Count, 0), mapOf(1, 0), negateOf(2)), plan(source(0), reduceOf(0, 0, impl.Count, 0), negateOf(1))},
		{"all columns in another order", plan(source(1), mapOf(0, 0, 2, 1)), plan(source(1), mapOf(0, 0, 2, 1))},
		{"the first columns only", plan(source(1), mapOf(0, 0, 1)), plan(source(1), mapOf(0, 0, 1))},
		{"all columns and one more", plan(source(0), mapOf(0, 0, 1, 0)), plan(source(0), mapOf(0, 0, 1, 0))},
		{"all columns of an earlier node only", plan(source(1), mapOf(0, 2, 0), mapOf(1, 0, 1)), plan(source(1), mapOf(0, 2, 0))},
		{"all columns twice", plan(source(0), mapOf(0, 0, 1), mapOf(1, 0, 1), negateOf(2)), plan(source(0), negateOf(0))},
		{"two maps", plan(source(1), mapOf(0, 2, 0, 1), mapOf(1, 1, 0)), plan(source(1), mapOf(0, 0, 2))},
		{"a map that repeats columns", plan(source(0), mapOf(0, 1, 0), mapOf(1, 0, 0, 1, 1, 0, 0)), plan(source(0), mapOf(0, 1, 1, 0, 0, 1, 1))},
		{"three maps", plan(source(1), mapOf(0, 1, 2, 0), mapOf(1, 1, 2, 0), mapOf(2, 2, 2)), plan(source(1), mapOf(0, 1, 1))},
		{"two maps that exchange columns, with all columns together", plan(source(0), mapOf(0, 1, 0), mapOf(1, 1, 0)), plan(source(0), mapOf(0, 0, 1))},
		{"a map of such a map", plan(source(0), mapOf(0, 1, 0), mapOf(1, 1, 0), mapOf(2, 0, 1)), plan(source(0), mapOf(0, 0, 1))},
		{"the inner map is used otherwise", plan(source(0), mapOf(0, 1, 0), mapOf(1, 0, 0), unionOf(1, 2)), plan(source(0), mapOf(0, 1, 0), mapOf(0, 1, 1), unionOf(1, 2))},
		{"two negations", plan(source(2), negateOf(0), negateOf(1)), plan(source(2))},
		{"three negations", plan(source(2), negateOf(0), negateOf(1), negateOf(2)), plan(source(2), negateOf(0))},
		{"four negations", plan(source(2), negateOf(0), negateOf(1), negateOf(2), negateOf(3)), plan(source(2))},
		{"the inner negation is used otherwise", plan(source(2), negateOf(0), negateOf(1), unionOf(1, 2)), plan(source(2), negateOf(0), unionOf(1, 0))},
		{"two distinct nodes", plan(source(2), distinctNodeOf(0), distinctNodeOf(1)), plan(source(2), distinctNodeOf(0))},
		{"three distinct nodes", plan(source(2), distinctNodeOf(0), distinctNodeOf(1), distinctNodeOf(2), negateOf(3)), plan(source(2), distinctNodeOf(0), negateOf(1))},
		{"negations around a map with all columns", plan(source(0), negateOf(0), mapOf(1, 0, 1), negateOf(2)), plan(source(0))},
		{"maps around two negations", plan(source(0), mapOf(0, 1, 0), negateOf(1), negateOf(2), mapOf(3, 1)), plan(source(0), mapOf(0, 0))},
		{"distinct nodes around two negations", plan(source(0), distinctNodeOf(0), negateOf(1), negateOf(2), distinctNodeOf(3)), plan(source(0), distinctNodeOf(0))},
		{"negations around a distinct node", plan(source(0), negateOf(0), distinctNodeOf(1), negateOf(2)), plan(source(0), negateOf(0), distinctNodeOf(1), negateOf(2))},
		{"the last node is an earlier one", plan(source(0), source(1), negateOf(1), negateOf(2)), plan(source(1))},
		{"both references are replaced", plan(source(0), mapOf(0, 0, 1), source(2), mapOf(2, 0, 1), joinOf(1, 3, 1)), plan(source(0), source(2), joinOf(0, 1, 1))},
		{"a key is replaced by no other", plan(source(1), mapOf(0, 0, 1, 2), reduceOf(1, 2, impl.Sum, 2)), plan(source(1), reduceOf(0, 2, impl.Sum, 2))},
		{"two filters", plan(source(0), filterOf(0, predicate(0, impl.Less, 1)), filterOf(1, predicate(0, impl.Less, 1))),
			plan(source(0), filterOf(0, predicate(0, impl.Less, 1)), filterOf(1, predicate(0, impl.Less, 1)))},
		{"equal nodes stay", plan(source(0), negateOf(0), negateOf(0), unionOf(1, 2)), plan(source(0), negateOf(0), negateOf(0), unionOf(1, 2))},
		{"the longest plan", longestPlan(0), longestPlan(0)[:2]},
	}
	for _, c := range cases {
		expectPlan(t, "SimplifyPlan: "+c.name, impl.SimplifyPlan(c.plan, threeWidths()), c.want)
	}
}

func TestP59ASimplifiedPlanHasNoDoubleOperators(t *testing.T) {
	r := newRandom()
	for range 3000 {
		c := randomRewriteCase(r)
		got := impl.SimplifyPlan(c.plan, c.widths)
		for i, n := range got {
			isUnary := n.Kind == impl.MapNode || n.Kind == impl.NegateNode || n.Kind == impl.DistinctNode
			if isUnary && got[n.A].Kind == n.Kind {
				t.Errorf("SimplifyPlan%v = %v: the node %d is double", c, got, i)
			}
		}
	}
}

func TestP60TheCostCountsEntries(t *testing.T) {
	r := newRandom()
	for range 500 {
		c := randomRewriteCase(r)
		what := fmt.Sprint("PlanCost", c)
		if cost := impl.PlanCost(c.plan, c.widths, c.inputs); cost != c.cost() {
			t.Errorf("%s = %d, want %d", what, cost, c.cost())
		}
		former := 0
		for n := range c.plan {
			cost := impl.PlanCost(c.plan[:n+1], c.widths, c.inputs)
			if cost-former != len(c.values[n]) {
				t.Errorf("%s: the node %d costs %d", what, n, cost-former)
			}
			former = cost
		}
	}
}

func TestP60CostAtItsEdges(t *testing.T) {
	most := numbered(1, impl.MaxEntries, -2)
	cases := []struct {
		name   string
		plan   []impl.Node
		widths []int
		inputs [][]impl.Entry
		want   int
	}{
		{"an empty input", plan(source(0), negateOf(0)), []int{1}, inputs(nil), 0},
		{"weights do not count", plan(source(0)), []int{1}, inputs(zset(entry(7, 1), entry(-9, 2))), 2},
		{"an input that is not used", plan(source(0)), []int{1, 1}, inputs(zset(entry(1, 1)), most), 1},
		{"a node that is not used", plan(source(1), negateOf(0), source(0)), []int{1, 1}, inputs(zset(entry(1, 1)), most), 2*impl.MaxEntries + 1},
		{"the most entries of the longest plan", longestPlan(0), []int{1}, inputs(most), impl.MaxNodes * impl.MaxEntries},
		{"a value with too many entries", plan(source(0), joinOf(0, 0, 0), negateOf(1)), []int{1}, inputs(numbered(1, 21, 1)), 21},
		{"a value with the most entries", plan(source(0), joinOf(0, 0, 0), negateOf(1)), []int{1}, inputs(numbered(1, 20, 1)), 820},
		{"too many nodes", longestPlan(1), []int{1}, inputs(most), -1},
		{"an input too many", plan(source(0)), []int{1}, inputs(most, nil), -1},
		{"no inputs", plan(source(0)), []int{1}, nil, -1},
		{"another width", plan(source(0)), []int{2}, inputs(most), -1},
		{"another width of an input that is not used", plan(source(0)), []int{1, 2}, inputs(nil, most), -1},
	}
	for name, z := range invalidZSets() {
		cases = append(cases, cases[0])
		last := &cases[len(cases)-1]
		last.name, last.inputs, last.want = name, inputs(z), -1
	}
	for _, c := range cases {
		if cost := impl.PlanCost(c.plan, c.widths, c.inputs); cost != c.want {
			t.Errorf("PlanCost: %s = %d, want %d", c.name, cost, c.want)
		}
	}
}

// expectNotRewritten expects the results for an invalid plan or invalid widths.
func expectNotRewritten(t *testing.T, what string, list []impl.Node, widths []int) {
	t.Helper()
	expectPlan(t, "PrunePlan: "+what, impl.PrunePlan(list, widths), nil)
	expectPlan(t, "SharePlan: "+what, impl.SharePlan(list, widths), nil)
	expectPlan(t, "SimplifyPlan: "+what, impl.SimplifyPlan(list, widths), nil)
	if cost := impl.PlanCost(list, widths, make([][]impl.Entry, len(widths))); cost != -1 {
		t.Errorf("PlanCost: %s = %d, want -1", what, cost)
	}
}

func TestP54InvalidPlansAreNotRewritten(t *testing.T) {
	for name, n := range invalidLastNodes() {
		expectNotRewritten(t, name, append(sources(), n), threeWidths())
		expectNotRewritten(t, name+", not used", append(sources(), n, source(0)), threeWidths())
	}
	for _, widths := range badWidths() {
		expectNotRewritten(t, fmt.Sprint("widths ", widths), plan(source(0)), widths)
	}
	for _, list := range [][]impl.Node{nil, {}, longestPlan(1), longestPlan(100), plan(negateOf(0)), plan(source(0), negateOf(1))} {
		expectNotRewritten(t, fmt.Sprintf("%d nodes", len(list)), list, []int{2})
	}
}

func TestRewritingReturnsNewMemory(t *testing.T) {
	all := append(nodesOfEachKind(), mapOf(1, 2, 0, 0, 1))
	for i, n := range all {
		list := append(sources(), n, negateOf(3))
		what := fmt.Sprint(" with the node ", i)
		expectFresh(t, "PrunePlan"+what, impl.PrunePlan, list, threeWidths())
		expectFresh(t, "SharePlan"+what, impl.SharePlan, list, threeWidths())
		expectFresh(t, "SimplifyPlan"+what, impl.SimplifyPlan, list, threeWidths())
	}
	list := plan(source(1), mapOf(0, 1, 0, 2), mapOf(1, 2, 1), mapOf(1, 2, 1), unionOf(2, 3), mapOf(1, 2, 1), unionOf(4, 5))
	expectFresh(t, "PrunePlan of maps", impl.PrunePlan, list, threeWidths())
	expectFresh(t, "SharePlan of maps", impl.SharePlan, list, threeWidths())
	expectFresh(t, "SimplifyPlan of maps", impl.SimplifyPlan, list, threeWidths())
}
