package tests

import (
	"fmt"
	"math"
	"math/rand/v2"
	"reflect"
	"slices"
	"testing"

	"loop.example/dataflow/impl"
)

// listedFields is the table of the document.
func listedFields(kind int) []string {
	switch kind {
	case 1, 5, 7:
		return []string{"Kind", "A"}
	case 2:
		return []string{"Kind", "A", "Pred"}
	case 3:
		return []string{"Kind", "A", "Cols"}
	case 4:
		return []string{"Kind", "A", "B"}
	case 6:
		return []string{"Kind", "A", "B", "Key"}
	case 8:
		return []string{"Kind", "A", "Key", "Agg", "Col"}
	}
	return nil
}

// hasListedFields reports whether a node has no other fields than those of its kind.
func hasListedFields(n impl.Node) bool {
	v := reflect.ValueOf(n)
	for i := range v.NumField() {
		field := v.Field(i)
		isEmpty := field.IsZero() || field.Kind() == reflect.Slice && field.Len() == 0
		if !isEmpty && !slices.Contains(listedFields(n.Kind), v.Type().Field(i).Name) {
			return false
		}
	}
	return true
}

func isIndex(i int, length int) bool {
	return 0 <= i && i < length
}

// widthOfNode is the reference for the width of a node, if the node is valid.
func widthOfNode(n impl.Node, inputs []int, nodes []int) (int, bool) {
	if n.Kind == 1 {
		if !isIndex(n.A, len(inputs)) {
			return 0, false
		}
		return inputs[n.A], true
	}
	if !isIndex(n.A, len(nodes)) || (n.Kind == 4 || n.Kind == 6) && !isIndex(n.B, len(nodes)) {
		return 0, false
	}
	a := nodes[n.A]
	switch n.Kind {
	case 2:
		return a, impl.ValidPredicate(n.Pred, a)
	case 3:
		_, ok := impl.ProjectRow(repeated(a, 1), n.Cols)
		return len(n.Cols), ok
	case 4:
		return a, a == nodes[n.B]
	case 5, 7:
		return a, true
	case 6:
		width := a + nodes[n.B] - n.Key
		return width, n.Key >= 0 && n.Key <= a && n.Key <= nodes[n.B] && width <= impl.MaxWidth
	case 8:
		return n.Key + 1, n.Key >= 0 && n.Key <= a && n.Key < impl.MaxWidth && n.Agg >= 1 && n.Agg <= 4 && isIndex(n.Col, a)
	}
	return 0, false
}

// widthsOf is the reference for PlanWidths, for valid widths of the inputs.
func widthsOf(plan []impl.Node, inputs []int) []int {
	var nodes []int
	for _, n := range plan {
		width, ok := widthOfNode(n, inputs, nodes)
		if !ok || !hasListedFields(n) {
			return nil
		}
		nodes = append(nodes, width)
	}
	if len(nodes) > impl.MaxNodes {
		return nil
	}
	return nodes
}

// valueOf is the reference for the value of a node.
func valueOf(n impl.Node, inputs [][]impl.Entry, nodes [][]impl.Entry) []impl.Entry {
	switch n.Kind {
	case 1:
		return inputs[n.A]
	case 2:
		return satisfying(nodes[n.A], n.Pred)
	case 3:
		return projected(nodes[n.A], n.Cols)
	case 4:
		return sumOf(nodes[n.A], nodes[n.B])
	case 5:
		return negated(nodes[n.A])
	case 6:
		return joined(nodes[n.A], nodes[n.B], n.Key)
	case 7:
		return distinctOf(nodes[n.A])
	default:
		return reduced(nodes[n.A], n.Key, n.Agg, n.Col)
	}
}

// evaluated is the reference for EvalNodes. What is not a Z-set counts as empty, but this is counted.
func evaluated(plan []impl.Node, inputs [][]impl.Entry) (nodes [][]impl.Entry, tooLarge int) {
	for _, n := range plan {
		value := valueOf(n, inputs, nodes)
		if !impl.ValidZSet(value) {
			value = nil
			tooLarge++
		}
		nodes = append(nodes, value)
	}
	return nodes, tooLarge
}

func randomPredicate(r *rand.Rand, width int) impl.Predicate {
	return predicate(r.IntN(width), between(r, 1, 4), between(r, -2, 2))
}

// randomNode returns a node that has only listed fields, with references to one of the last nodes. It may be invalid.
func randomNode(r *rand.Rand, inputs []int, nodes []int) impl.Node {
	if len(nodes) == 0 {
		return impl.Node{Kind: impl.Source, A: r.IntN(len(inputs))}
	}
	n := impl.Node{Kind: between(r, 1, 8), A: between(r, max(0, len(nodes)-4), len(nodes)-1)}
	b := r.IntN(len(nodes))
	width := nodes[n.A]
	switch n.Kind {
	case impl.Source:
		n.A = r.IntN(len(inputs))
	case impl.FilterNode:
		n.Pred = randomPredicate(r, width)
	case impl.MapNode:
		n.Cols = randomColumns(r, width)
	case impl.UnionNode:
		n.B = b
	case impl.JoinNode:
		n.B, n.Key = b, r.IntN(width+1)
	case impl.ReduceNode:
		n.Key, n.Agg, n.Col = r.IntN(width+1), between(r, 1, 4), r.IntN(width)
	}
	return n
}

// randomPlan returns a valid plan with n nodes.
func randomPlan(r *rand.Rand, n int, inputs []int) []impl.Node {
	var plan []impl.Node
	var nodes []int
	for len(plan) < n {
		node := randomNode(r, inputs, nodes)
		if width, ok := widthOfNode(node, inputs, nodes); ok {
			plan, nodes = append(plan, node), append(nodes, width)
		}
	}
	return plan
}

// randomWidths returns the widths of one to three inputs.
func randomWidths(r *rand.Rand) []int {
	widths := make([]int, between(r, 1, impl.MaxInputs))
	for i := range widths {
		widths[i] = between(r, 1, 3)
	}
	return widths
}

// randomZSets returns a small Z-set for each width.
func randomZSets(r *rand.Rand, widths []int) [][]impl.Entry {
	var list [][]impl.Entry
	for _, width := range widths {
		list = append(list, randomZSet(r, width))
	}
	return list
}

// added returns the sums of the Z-sets of two lists.
func added(a [][]impl.Entry, b [][]impl.Entry) [][]impl.Entry {
	var sums [][]impl.Entry
	for i := range a {
		sums = append(sums, sumOf(a[i], b[i]))
	}
	return sums
}

func expectZSets(t *testing.T, what string, got [][]impl.Entry, want [][]impl.Entry) {
	t.Helper()
	if !slices.EqualFunc(got, want, sameZSet) {
		t.Errorf("%s = %v, want %v", what, got, want)
	}
}

func expectInts(t *testing.T, what string, got []int, want []int) {
	t.Helper()
	if !slices.Equal(got, want) {
		t.Errorf("%s = %v, want %v", what, got, want)
	}
}

func plan(nodes ...impl.Node) []impl.Node {
	return nodes
}

func inputs(zs ...[]impl.Entry) [][]impl.Entry {
	return zs
}

// nodesOfEachKind returns a valid node of each kind for inputs and earlier nodes of the widths 2, 3, 2.
func nodesOfEachKind() []impl.Node {
	return plan(
		impl.Node{Kind: impl.Source, A: 1},
		impl.Node{Kind: impl.FilterNode, A: 1, Pred: predicate(2, impl.NotEqual, 5)},
		impl.Node{Kind: impl.MapNode, A: 1, Cols: []int{2, 0, 0, 1}},
		impl.Node{Kind: impl.UnionNode, A: 2},
		impl.Node{Kind: impl.NegateNode, A: 1},
		impl.Node{Kind: impl.JoinNode, A: 1, B: 2, Key: 1},
		impl.Node{Kind: impl.DistinctNode, A: 2},
		impl.Node{Kind: impl.ReduceNode, A: 1, Key: 2, Agg: impl.Sum, Col: 2},
	)
}

// sources returns the sources of three inputs.
func sources() []impl.Node {
	return plan(impl.Node{Kind: impl.Source}, impl.Node{Kind: impl.Source, A: 1}, impl.Node{Kind: impl.Source, A: 2})
}

// threeWidths are the widths of the inputs for sources.
func threeWidths() []int {
	return []int{2, 3, 2}
}

// invalidLastNodes has, for each way to be invalid, a node that makes a plan that begins with sources invalid.
func invalidLastNodes() map[string]impl.Node {
	list := map[string]impl.Node{"no kind": {}, "no kind, a field": {A: 1}}
	change := func(name string, n impl.Node, set func(n *impl.Node)) {
		set(&n)
		list[fmt.Sprintf("kind %d, %s", n.Kind, name)] = n
	}
	for _, kind := range []int{0, 9, -1, math.MaxInt, math.MinInt} {
		change("nothing else", impl.Node{}, func(n *impl.Node) { n.Kind = kind })
		for _, valid := range nodesOfEachKind() {
			change(fmt.Sprint("fields of ", valid.Kind), valid, func(n *impl.Node) { n.Kind = kind })
		}
	}
	for _, valid := range nodesOfEachKind() {
		for _, a := range []int{-1, 3, 4, impl.MaxNodes, math.MaxInt, math.MinInt} {
			change(fmt.Sprint("A ", a), valid, func(n *impl.Node) { n.A = a })
			if valid.Kind == impl.UnionNode || valid.Kind == impl.JoinNode {
				change(fmt.Sprint("B ", a), valid, func(n *impl.Node) { n.B = a })
				change(fmt.Sprint("A and B ", a), valid, func(n *impl.Node) { n.A, n.B, n.Key = a, a, 0 })
				change(fmt.Sprint("no Key, A ", a), valid, func(n *impl.Node) { n.A, n.Key = a, 0 })
				change(fmt.Sprint("no Key, B ", a), valid, func(n *impl.Node) { n.B, n.Key = a, 0 })
			}
		}
		addUnlistedFields(valid, change)
	}
	addInvalidConditions(change)
	return list
}

// addUnlistedFields sets each field that a node does not have.
func addUnlistedFields(valid impl.Node, change func(name string, n impl.Node, set func(n *impl.Node))) {
	fields := map[string]func(n *impl.Node){
		"B":    func(n *impl.Node) { n.B = 1 },
		"Key":  func(n *impl.Node) { n.Key = 1 },
		"Cols": func(n *impl.Node) { n.Cols = []int{0} },
		"Pred": func(n *impl.Node) { n.Pred = predicate(0, impl.Equal, 0) },
		"Agg":  func(n *impl.Node) { n.Agg = impl.Count },
		"Col":  func(n *impl.Node) { n.Col = 1 },
	}
	for name, set := range fields {
		if !slices.Contains(listedFields(valid.Kind), name) {
			change("with "+name, valid, set)
		}
	}
	if valid.Kind != impl.FilterNode {
		change("with a column of Pred", valid, func(n *impl.Node) { n.Pred.Col = 1 })
		change("with a value of Pred", valid, func(n *impl.Node) { n.Pred.Value = -1 })
	}
	if !slices.Contains(listedFields(valid.Kind), "B") {
		change("with a negative B", valid, func(n *impl.Node) { n.B = -1 })
	}
}

// addInvalidConditions adds nodes that do not satisfy the conditions of their function.
func addInvalidConditions(change func(name string, n impl.Node, set func(n *impl.Node))) {
	for _, p := range invalidPredicates() {
		change(fmt.Sprint("predicate ", p), impl.Node{Kind: impl.FilterNode, A: 2}, func(n *impl.Node) { n.Pred = p })
	}
	for _, cols := range [][]int{nil, {}, {3}, {-1}, {0, 1, 3}, {math.MaxInt}, {math.MinInt}, repeated(impl.MaxWidth+1, 0)} {
		change(fmt.Sprint("columns ", cols), impl.Node{Kind: impl.MapNode, A: 1}, func(n *impl.Node) { n.Cols = cols })
	}
	change("widths differ", impl.Node{Kind: impl.UnionNode, A: 1}, func(n *impl.Node) {})
	change("widths differ the other way", impl.Node{Kind: impl.UnionNode, B: 1}, func(n *impl.Node) {})
	for _, k := range badNumbersOfColumns(2) {
		change(fmt.Sprint("Key ", k), impl.Node{Kind: impl.JoinNode, A: 1}, func(n *impl.Node) { n.Key = k })
		change(fmt.Sprint("Key of the same ", k), impl.Node{Kind: impl.JoinNode}, func(n *impl.Node) { n.Key = k })
		reduce := impl.Node{Kind: impl.ReduceNode, Key: 1, Agg: impl.Count}
		change(fmt.Sprint("Key ", k), reduce, func(n *impl.Node) { n.Key = k })
		change(fmt.Sprint("Col ", k), reduce, func(n *impl.Node) { n.Col = k })
	}
	change("Col 2", impl.Node{Kind: impl.ReduceNode, Key: 1, Agg: impl.Count}, func(n *impl.Node) { n.Col = 2 })
	for _, kind := range []int{0, 5, -1, math.MaxInt, math.MinInt} {
		change(fmt.Sprint("Agg ", kind), impl.Node{Kind: impl.ReduceNode, Key: 1}, func(n *impl.Node) { n.Agg = kind })
	}
}

// badWidths has lists that are not the widths of inputs.
func badWidths() [][]int {
	return [][]int{
		nil, {}, {0}, {-1}, {impl.MaxWidth + 1}, {math.MaxInt}, {math.MinInt}, {0, 1}, {1, 0}, {1, 1, impl.MaxWidth + 1},
		repeated(impl.MaxInputs+1, 1), repeated(impl.MaxInputs+1, 0), repeated(100, 1),
	}
}

// longestPlan has MaxNodes nodes, with the given number added.
func longestPlan(more int) []impl.Node {
	list := sources()[:1]
	for len(list) < impl.MaxNodes+more {
		list = append(list, impl.Node{Kind: impl.NegateNode, A: len(list) - 1})
	}
	return list
}

func TestLimitsOfPlans(t *testing.T) {
	if impl.MaxInputs != 3 || impl.MaxNodes != 12 {
		t.Error("limits of plans")
	}
	for i, kind := range []int{impl.Source, impl.FilterNode, impl.MapNode, impl.UnionNode, impl.NegateNode, impl.JoinNode, impl.DistinctNode, impl.ReduceNode} {
		if kind != i+1 {
			t.Errorf("kind %d of nodes = %d", i+1, kind)
		}
	}
	z := zset(entry(2, 1, 5))
	expectInts(t, "PlanWidths of the longest plan", impl.PlanWidths(longestPlan(0), []int{2}), repeated(impl.MaxNodes, 2))
	expectZSet(t, "EvalPlan of the longest plan", impl.EvalPlan(longestPlan(0), []int{2}, inputs(z)), negated(z))
	for _, bad := range [][]impl.Node{nil, {}, longestPlan(1), longestPlan(100)} {
		expectInts(t, fmt.Sprintf("PlanWidths of %d nodes", len(bad)), impl.PlanWidths(bad, []int{2}), nil)
		expectZSets(t, fmt.Sprintf("EvalNodes of %d nodes", len(bad)), impl.EvalNodes(bad, []int{2}, inputs(z)), nil)
		expectZSet(t, fmt.Sprintf("EvalPlan of %d nodes", len(bad)), impl.EvalPlan(bad, []int{2}, inputs(z)), nil)
	}
	expectInts(t, "PlanWidths for the most inputs", impl.PlanWidths(sources(), threeWidths()), threeWidths())
	for width := 1; width <= impl.MaxWidth; width++ {
		expectInts(t, "PlanWidths of each width", impl.PlanWidths(sources()[:1], []int{width}), []int{width})
	}
	for _, widths := range badWidths() {
		what := fmt.Sprint(" for the widths ", widths)
		zs := make([][]impl.Entry, len(widths))
		expectInts(t, "PlanWidths"+what, impl.PlanWidths(sources()[:1], widths), nil)
		expectZSets(t, "EvalNodes"+what, impl.EvalNodes(sources()[:1], widths, zs), nil)
		expectZSet(t, "EvalPlan"+what, impl.EvalPlan(sources()[:1], widths, zs), nil)
	}
}

func TestP43WidthsOfEachKind(t *testing.T) {
	want := []int{3, 3, 4, 2, 3, 4, 2, 3}
	for i, n := range nodesOfEachKind() {
		expectInts(t, fmt.Sprint("PlanWidths with ", n), impl.PlanWidths(append(sources(), n), threeWidths()), append(threeWidths(), want[i]))
	}
	all := slices.Concat(sources(), nodesOfEachKind())
	expectInts(t, "PlanWidths of all kinds", impl.PlanWidths(all, threeWidths()), append(threeWidths(), want...))
	for width := 1; width <= impl.MaxWidth; width++ {
		for k := range width + 1 {
			n := impl.Node{Kind: impl.ReduceNode, Key: k, Agg: impl.Count, Col: width - 1}
			want := []int{width, k + 1}
			if k == impl.MaxWidth {
				want = nil
			}
			expectInts(t, fmt.Sprint("PlanWidths of ReduceNode on ", k), impl.PlanWidths(plan(sources()[0], n), []int{width}), want)
			n = impl.Node{Kind: impl.JoinNode, Key: k}
			want = []int{width, width + width - k}
			if width+width-k > impl.MaxWidth {
				want = nil
			}
			expectInts(t, fmt.Sprint("PlanWidths of JoinNode on ", k), impl.PlanWidths(plan(sources()[0], n), []int{width}), want)
		}
		n := impl.Node{Kind: impl.MapNode, Cols: repeated(impl.MaxWidth, width-1)}
		expectInts(t, "PlanWidths of the widest MapNode", impl.PlanWidths(plan(sources()[0], n), []int{width}), []int{width, impl.MaxWidth})
	}
}

func TestP43InvalidPlans(t *testing.T) {
	z := zset(entry(1, 1, 2))
	zs := inputs(z, zset(entry(1, 1, 2, 3)), z)
	for name, n := range invalidLastNodes() {
		for _, bad := range [][]impl.Node{append(sources(), n), append(sources(), n, impl.Node{Kind: impl.Source})} {
			expectInts(t, "PlanWidths: "+name, impl.PlanWidths(bad, threeWidths()), nil)
			expectZSets(t, "EvalNodes: "+name, impl.EvalNodes(bad, threeWidths(), zs), nil)
			expectZSet(t, "EvalPlan: "+name, impl.EvalPlan(bad, threeWidths(), zs), nil)
		}
	}
	for _, n := range nodesOfEachKind()[1:] {
		n.A, n.B = 0, 0
		expectInts(t, fmt.Sprint("PlanWidths with the first node ", n), impl.PlanWidths(plan(n), []int{2}), nil)
		expectInts(t, fmt.Sprint("PlanWidths with the first node ", n), impl.PlanWidths(append(plan(n), sources()...), threeWidths()), nil)
	}
	expectInts(t, "PlanWidths with empty columns", impl.PlanWidths(plan(impl.Node{Kind: impl.Source, Cols: []int{}}), []int{2}), []int{2})
}

func TestP43PlanWidthsIsTheDefinition(t *testing.T) {
	r := newRandom()
	valid := 0
	for range 20000 {
		widths := randomWidths(r)
		list := randomPlan(r, between(r, 1, 3), widths)
		n := impl.Node{Kind: between(r, 0, 9), A: between(r, -1, 3)}
		for range r.IntN(4) {
			switch r.IntN(6) {
			case 0:
				n.B = between(r, -1, 3)
			case 1:
				n.Key = between(r, -1, 4)
			case 2:
				n.Cols = randomList(r, r.IntN(3), 2)
			case 3:
				n.Pred = predicate(between(r, -1, 3), between(r, 0, 5), 0)
			case 4:
				n.Agg = between(r, -1, 5)
			case 5:
				n.Col = between(r, -1, 3)
			}
		}
		list = append(list, n)
		want := widthsOf(list, widths)
		expectInts(t, fmt.Sprintf("PlanWidths(%v, %v)", list, widths), impl.PlanWidths(list, widths), want)
		if want != nil {
			valid++
		}
	}
	if valid < 1000 {
		t.Errorf("only %d plans are valid", valid)
	}
}

func TestP43WidthsAreThoseOfTheValues(t *testing.T) {
	r := newRandom()
	for range 2000 {
		widths := randomWidths(r)
		list := randomPlan(r, between(r, 1, impl.MaxNodes), widths)
		zs := randomZSets(r, widths)
		what := fmt.Sprintf("EvalNodes(%v, %v, %v)", list, widths, zs)
		values := impl.EvalNodes(list, widths, zs)
		want, _ := evaluated(list, zs)
		expectZSets(t, what, values, want)
		nodes := impl.PlanWidths(list, widths)
		expectInts(t, "PlanWidths", nodes, widthsOf(list, widths))
		for i, z := range values {
			if !impl.ValidZSet(z) || len(z) > 0 && len(z[0].Row) != nodes[i] {
				t.Errorf("%s has the value %v of the width %d", what, z, nodes[i])
			}
		}
	}
}

func TestP43ValuesOfEachKind(t *testing.T) {
	a := zset(entry(2, 1, 4), entry(-1, 2, 5))
	b := zset(entry(1, 1, 4, 7), entry(3, 1, 5, 5), entry(-2, 2, 0, 6))
	c := zset(entry(-2, 1, 4), entry(5, 3, 3))
	want := [][]impl.Entry{
		a, b, c, b,
		zset(entry(1, 1, 4, 7), entry(-2, 2, 0, 6)),
		zset(entry(3, 5, 1, 1, 5), entry(-2, 6, 2, 2, 0), entry(1, 7, 1, 1, 4)),
		zset(entry(-1, 2, 5), entry(5, 3, 3)),
		zset(entry(-1, 1, 4, 7), entry(-3, 1, 5, 5), entry(2, 2, 0, 6)),
		zset(entry(-2, 1, 4, 7, 4), entry(-6, 1, 5, 5, 4)),
		zset(entry(1, 3, 3)),
		zset(entry(1, 1, 4, 7), entry(1, 1, 5, 15), entry(1, 2, 0, -12)),
	}
	all := slices.Concat(sources(), nodesOfEachKind())
	expectZSets(t, "EvalNodes of all kinds", impl.EvalNodes(all, threeWidths(), inputs(a, b, c)), want)
	expectZSet(t, "EvalPlan of all kinds", impl.EvalPlan(all, threeWidths(), inputs(a, b, c)), want[len(want)-1])
	expectZSets(t, "EvalNodes of empty inputs", impl.EvalNodes(all, threeWidths(), inputs(nil, nil, nil)), make([][]impl.Entry, len(all)))
}

func TestP43WhatIsNotAZSetCountsAsEmpty(t *testing.T) {
	big := impl.MaxWeight
	source := impl.Node{Kind: impl.Source}
	list := plan(source, impl.Node{Kind: impl.UnionNode}, impl.Node{Kind: impl.UnionNode, A: 1}, impl.Node{Kind: impl.UnionNode, A: 1, B: 1})
	z := zset(entry(big/2, 1))
	expectZSets(t, "EvalNodes with a weight too large", impl.EvalNodes(list, []int{1}, inputs(z)), inputs(z, zset(entry(big, 1)), nil, nil))
	list = append(list, impl.Node{Kind: impl.UnionNode, A: 2})
	expectZSet(t, "EvalPlan behind a weight too large", impl.EvalPlan(list, []int{1}, inputs(z)), z)
	list = plan(source, impl.Node{Kind: impl.JoinNode}, impl.Node{Kind: impl.DistinctNode, A: 1})
	most := numbered(1, 20, 1)
	expectZSet(t, "EvalPlan with the most entries", impl.EvalPlan(list, []int{1}, inputs(most)), joined(most, most, 0))
	expectZSet(t, "EvalPlan with too many entries", impl.EvalPlan(list, []int{1}, inputs(numbered(1, 21, 1))), nil)
}

func TestP44ABeginningOfAPlanIsAPlan(t *testing.T) {
	r := newRandom()
	for range 300 {
		widths := randomWidths(r)
		list := randomPlan(r, between(r, 1, impl.MaxNodes), widths)
		zs := randomZSets(r, widths)
		nodes, values := impl.PlanWidths(list, widths), impl.EvalNodes(list, widths, zs)
		for n := 1; n <= len(list); n++ {
			expectInts(t, "PlanWidths of a beginning", impl.PlanWidths(list[:n], widths), nodes[:n])
			expectZSets(t, "EvalNodes of a beginning", impl.EvalNodes(list[:n], widths, zs), values[:n])
			expectZSet(t, "EvalPlan of a beginning", impl.EvalPlan(list[:n], widths, zs), values[n-1])
		}
	}
}

// randomLinearPlan returns a valid plan of linear nodes.
func randomLinearPlan(r *rand.Rand, n int, widths []int) []impl.Node {
	for {
		list := randomPlan(r, n, widths)
		if !slices.ContainsFunc(list, func(n impl.Node) bool { return n.Kind > impl.NegateNode }) {
			return list
		}
	}
}

func TestP45LinearPlansAreLinear(t *testing.T) {
	r := newRandom()
	for range 1000 {
		widths := randomWidths(r)
		list := randomLinearPlan(r, between(r, 1, 5), widths)
		a, b := randomZSets(r, widths), randomZSets(r, widths)
		what := fmt.Sprintf("EvalPlan(%v, %v) of %v and %v", list, widths, a, b)
		expectBool(t, "IsLinear", impl.IsLinear(list), true)
		sum := impl.EvalPlan(list, widths, added(a, b))
		expectZSet(t, what, sum, impl.Add(impl.EvalPlan(list, widths, a), impl.EvalPlan(list, widths, b)))
		ofA, _ := evaluated(list, a)
		ofB, _ := evaluated(list, b)
		expectZSet(t, what, sum, sumOf(ofA[len(list)-1], ofB[len(list)-1]))
	}
}

func TestP46LinearityIsAPropertyOfTheNodes(t *testing.T) {
	isLinear := map[int]bool{1: true, 2: true, 3: true, 4: true, 5: true}
	var kinds []int
	for kind := -2; kind <= 12; kind++ {
		kinds = append(kinds, kind)
	}
	for _, kind := range append(kinds, math.MaxInt, math.MinInt, 100) {
		n := impl.Node{Kind: kind}
		expectBool(t, fmt.Sprint("IsLinear of the kind ", kind), impl.IsLinear(plan(n)), isLinear[kind])
		n = impl.Node{Kind: kind, A: -5, B: 100, Key: 3, Cols: []int{-1}, Pred: predicate(9, 9, 9), Agg: 9, Col: 9}
		expectBool(t, fmt.Sprint("IsLinear of an invalid node of the kind ", kind), impl.IsLinear(plan(n)), isLinear[kind])
		expectBool(t, fmt.Sprint("IsLinear, last kind ", kind), impl.IsLinear(append(longestPlan(100), n)), isLinear[kind])
		expectBool(t, fmt.Sprint("IsLinear, first kind ", kind), impl.IsLinear(append(plan(n), longestPlan(1)...)), isLinear[kind])
	}
	expectBool(t, "IsLinear without nodes", impl.IsLinear(nil), true)
	expectBool(t, "IsLinear without nodes", impl.IsLinear([]impl.Node{}), true)
	r := newRandom()
	for range 1000 {
		var list []impl.Node
		want := true
		for range r.IntN(5) {
			kind := between(r, 0, 8)
			list = append(list, impl.Node{Kind: kind, A: r.IntN(3)})
			want = want && impl.IsLinear(list[len(list)-1:])
		}
		expectBool(t, fmt.Sprintf("IsLinear(%v)", list), impl.IsLinear(list), want)
	}
}

func TestP47InputsAreCheckedOneByOne(t *testing.T) {
	r := newRandom()
	for range 300 {
		widths := randomWidths(r)
		zs := randomZSets(r, widths)
		what := fmt.Sprintf("ValidInputs(%v, %v)", widths, zs)
		expectBool(t, what, impl.ValidInputs(widths, zs), true)
		expectBool(t, what+" with an additional empty input", impl.ValidInputs(widths, append(slices.Clone(zs), nil)), false)
		expectBool(t, what+" with an additional input", impl.ValidInputs(widths, append(slices.Clone(zs), zs[0])), false)
		expectBool(t, what+" with an input less", impl.ValidInputs(widths, zs[1:]), false)
		for i, width := range widths {
			changed := slices.Clone(zs)
			changed[i] = nil
			expectBool(t, what+" with an empty input", impl.ValidInputs(widths, changed), true)
			for other := 1; other <= impl.MaxWidth; other++ {
				changed[i] = zset(entry(1, repeated(other, 1)...))
				expectBool(t, fmt.Sprintf("%s with the width %d of the input %d", what, other, i), impl.ValidInputs(widths, changed), other == width)
			}
		}
	}
}

func TestP47ValidInputsAtItsEdges(t *testing.T) {
	for width := 1; width <= impl.MaxWidth; width++ {
		for n := 1; n <= impl.MaxInputs; n++ {
			expectBool(t, "ValidInputs of empty inputs", impl.ValidInputs(repeated(n, width), make([][]impl.Entry, n)), true)
			expectBool(t, "ValidInputs without inputs", impl.ValidInputs(repeated(n, width), nil), false)
		}
	}
	for _, widths := range badWidths() {
		zs := make([][]impl.Entry, len(widths))
		expectBool(t, fmt.Sprint("ValidInputs of empty inputs for the widths ", widths), impl.ValidInputs(widths, zs), false)
		for i := range zs {
			zs[i] = zset(entry(1, repeated(min(max(widths[i], 0), 100), 1)...))
		}
		expectBool(t, fmt.Sprint("ValidInputs for the widths ", widths), impl.ValidInputs(widths, zs), false)
	}
	most := numbered(1, impl.MaxEntries, impl.MaxWeight)
	expectBool(t, "ValidInputs of the most entries", impl.ValidInputs([]int{1}, inputs(most)), true)
	for name, z := range invalidZSets() {
		for width := 1; width <= 2; width++ {
			expectBool(t, "ValidInputs: "+name, impl.ValidInputs([]int{width}, inputs(z)), false)
			expectBool(t, "ValidInputs, last: "+name, impl.ValidInputs([]int{1, width}, inputs(most, z)), false)
			expectZSets(t, "EvalNodes: "+name, impl.EvalNodes(sources()[:1], []int{1, width}, inputs(most, z)), nil)
			expectZSet(t, "EvalPlan: "+name, impl.EvalPlan(sources()[:1], []int{1, width}, inputs(most, z)), nil)
		}
	}
}

func TestP47InvalidInputsOfAPlan(t *testing.T) {
	one, pair := zset(entry(1, 1)), zset(entry(1, 1, 2))
	for _, zs := range [][][]impl.Entry{nil, inputs(), inputs(one), inputs(one, one), inputs(pair, pair), inputs(pair, one), inputs(one, pair, nil)} {
		expectBool(t, fmt.Sprint("ValidInputs of ", zs), impl.ValidInputs([]int{1, 2}, zs), false)
		expectZSets(t, fmt.Sprint("EvalNodes of ", zs), impl.EvalNodes(sources()[:1], []int{1, 2}, zs), nil)
		expectZSet(t, fmt.Sprint("EvalPlan of ", zs), impl.EvalPlan(sources()[:1], []int{1, 2}, zs), nil)
	}
	expectZSet(t, "EvalPlan of an input that is not used", impl.EvalPlan(sources()[:1], []int{1, 2}, inputs(one, pair)), one)
}

func TestPlanFunctionsReturnNewMemory(t *testing.T) {
	all := slices.Concat(sources(), sources()[:1], nodesOfEachKind())
	zs := inputs(zset(entry(2, 1, 4), entry(-1, 2, 5)), zset(entry(1, 1, 4, 7), entry(3, 2, 5, 5)), zset(entry(-2, 1, 4), entry(5, 3, 3)))
	expectFresh(t, "PlanWidths", impl.PlanWidths, all, threeWidths())
	expectFresh(t, "EvalNodes", impl.EvalNodes, all, threeWidths(), zs)
	for n := 1; n <= len(all); n++ {
		expectFresh(t, fmt.Sprint("EvalPlan of the nodes up to ", n), impl.EvalPlan, all[:n], threeWidths(), zs)
	}
}
