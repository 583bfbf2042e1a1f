package tests

import (
	"fmt"
	"math/rand/v2"
	"slices"
	"testing"

	"loop.example/dataflow/impl"
)

// canStep reports whether every Z-set on the way from one evaluation of a plan to another one can be represented.
func canStep(list []impl.Node, before [][]impl.Entry, after [][]impl.Entry) bool {
	for i, n := range list {
		parts := inputs(minus(after[i], before[i]))
		if n.Kind == impl.JoinNode {
			da, db := minus(after[n.A], before[n.A]), minus(after[n.B], before[n.B])
			parts = append(parts, joined(da, after[n.B], n.Key), joined(before[n.A], db, n.Key))
		}
		for _, part := range parts {
			if !impl.ValidZSet(part) {
				return false
			}
		}
	}
	return true
}

// stepCase is a plan with inputs and changes, for which every Z-set on the way can be represented.
type stepCase struct {
	plan          []impl.Node
	widths        []int
	inputs        [][]impl.Entry
	deltas        [][]impl.Entry
	before, after [][]impl.Entry
}

func (c stepCase) String() string {
	return fmt.Sprintf("plan %v, widths %v, inputs %v, changes %v", c.plan, c.widths, c.inputs, c.deltas)
}

// last returns the change of the value of the last node.
func (c stepCase) last() []impl.Entry {
	i := len(c.plan) - 1
	return minus(c.after[i], c.before[i])
}

func randomStepCase(r *rand.Rand) stepCase {
	for {
		widths := randomWidths(r)
		c := stepCase{widths: widths, plan: randomPlan(r, between(r, 1, impl.MaxNodes), widths), inputs: randomZSets(r, widths), deltas: randomDeltas(r, widths)}
		before, tooLarge := evaluated(c.plan, c.inputs)
		after, tooLargeThen := evaluated(c.plan, added(c.inputs, c.deltas))
		if tooLarge == 0 && tooLargeThen == 0 && canStep(c.plan, before, after) {
			c.before, c.after = before, after
			return c
		}
	}
}

// randomDeltas returns a small Z-set for each width, some of them empty.
func randomDeltas(r *rand.Rand, widths []int) [][]impl.Entry {
	list := randomZSets(r, widths)
	for i := range list {
		if r.IntN(4) == 0 {
			list[i] = nil
		}
	}
	return list
}

func negatedAll(list [][]impl.Entry) [][]impl.Entry {
	var all [][]impl.Entry
	for _, z := range list {
		all = append(all, negated(z))
	}
	return all
}

// changeByDefinition is the change of a node as the document defines it, from former values and changes of nodes.
func changeByDefinition(n impl.Node, former [][]impl.Entry, changes [][]impl.Entry, deltas [][]impl.Entry) []impl.Entry {
	switch n.Kind {
	case impl.Source:
		return deltas[n.A]
	case impl.FilterNode:
		return impl.Filter(changes[n.A], n.Pred)
	case impl.MapNode:
		return impl.MapColumns(changes[n.A], n.Cols)
	case impl.UnionNode:
		return impl.Add(changes[n.A], changes[n.B])
	case impl.NegateNode:
		return impl.Negate(changes[n.A])
	case impl.JoinNode:
		return impl.DeltaJoin(former[n.A], changes[n.A], former[n.B], changes[n.B], n.Key)
	case impl.DistinctNode:
		return impl.DeltaDistinct(former[n.A], changes[n.A])
	default:
		return impl.DeltaReduce(former[n.A], changes[n.A], n.Key, n.Agg, n.Col)
	}
}

func stepByDefinition(list []impl.Node, state [][]impl.Entry, deltas [][]impl.Entry) (next [][]impl.Entry, change []impl.Entry) {
	var changes [][]impl.Entry
	for i, n := range list {
		change = changeByDefinition(n, state, changes, deltas)
		changes = append(changes, change)
		next = append(next, impl.Add(state[i], change))
	}
	return next, change
}

// expectStep expects the results of StepPlan.
func expectStep(t *testing.T, what string, c stepCase, state [][]impl.Entry, wantState [][]impl.Entry, wantChange []impl.Entry) {
	t.Helper()
	next, change := impl.StepPlan(c.plan, c.widths, state, c.deltas)
	expectZSets(t, "the state of "+what, next, wantState)
	expectZSet(t, "the change of "+what, change, wantChange)
}

func TestP48IncrementalEvaluationIsExact(t *testing.T) {
	r := newRandom()
	changed := map[int]int{}
	for range 2000 {
		c := randomStepCase(r)
		state := impl.EvalNodes(c.plan, c.widths, c.inputs)
		expectZSets(t, "EvalNodes", state, c.before)
		expectStep(t, fmt.Sprint("StepPlan: ", c), c, state, c.after, c.last())
		expectZSets(t, "EvalNodes of the changed inputs", impl.EvalNodes(c.plan, c.widths, added(c.inputs, c.deltas)), c.after)
		for i, n := range c.plan {
			if !sameZSet(c.before[i], c.after[i]) {
				changed[n.Kind]++
			}
		}
	}
	for kind := 1; kind <= 8; kind++ {
		if changed[kind] < 50 {
			t.Errorf("only %d nodes of the kind %d change", changed[kind], kind)
		}
	}
}

func TestP48StepsOfEachKind(t *testing.T) {
	a, da := zset(entry(2, 1, 4), entry(-1, 2, 5)), zset(entry(-2, 1, 4), entry(1, 2, 5), entry(1, 3, 3))
	b, db := zset(entry(1, 1, 4, 7), entry(-2, 2, 0, 6)), zset(entry(-1, 1, 4, 7), entry(3, 3, 1, 5))
	c, dc := zset(entry(-2, 1, 4), entry(5, 3, 3)), zset(entry(3, 1, 4), entry(-5, 3, 3))
	wantChanges := [][]impl.Entry{
		da, db, dc, db,
		zset(entry(-1, 1, 4, 7)),
		zset(entry(3, 5, 3, 3, 1), entry(-1, 7, 1, 1, 4)),
		zset(entry(1, 1, 4), entry(1, 2, 5), entry(-4, 3, 3)),
		zset(entry(1, 1, 4, 7), entry(-3, 3, 1, 5)),
		zset(entry(2, 1, 4, 7, 4)),
		zset(entry(1, 1, 4), entry(-1, 3, 3)),
		zset(entry(-1, 1, 4, 7), entry(1, 3, 1, 15)),
	}
	all := slices.Concat(sources(), nodesOfEachKind())
	state := impl.EvalNodes(all, threeWidths(), inputs(a, b, c))
	for n := 1; n <= len(all); n++ {
		s := stepCase{plan: all[:n], widths: threeWidths(), deltas: inputs(da, db, dc)}
		what := fmt.Sprintf("StepPlan of %d nodes", n)
		expectStep(t, what, s, state[:n], added(state[:n], wantChanges[:n]), wantChanges[n-1])
		expectStep(t, what+" from nothing", s, make([][]impl.Entry, n), impl.EvalNodes(s.plan, s.widths, s.deltas), impl.EvalPlan(s.plan, s.widths, s.deltas))
	}
}

func TestP48ChangesThatCancel(t *testing.T) {
	one, two := zset(entry(1, 1, 1)), zset(entry(1, 2, 1))
	both := append(one, two...)
	source := impl.Node{Kind: impl.Source}
	other := impl.Node{Kind: impl.Source, A: 1}
	cases := []struct {
		name   string
		plan   []impl.Node
		a, b   []impl.Entry
		da, db []impl.Entry
		want   []impl.Entry
	}{
		{"changes of both inputs", plan(source, other, impl.Node{Kind: impl.UnionNode, B: 1}), one, one, two, negated(two), nil},
		{"an input minus itself", plan(source, impl.Node{Kind: impl.NegateNode}, impl.Node{Kind: impl.UnionNode, B: 1}), one, nil, two, nil, nil},
		{"rows with the same projection", plan(source, impl.Node{Kind: impl.MapNode, Cols: []int{1}}), one, nil, append(negated(one), two...), nil, nil},
		{"rows that are filtered", plan(source, impl.Node{Kind: impl.FilterNode, Pred: predicate(0, impl.Less, 2)}), one, nil, two, nil, nil},
		{"a join of rows that take turns", plan(source, other, impl.Node{Kind: impl.JoinNode, B: 1, Key: 1}), one, nil, negated(one), one, nil},
		{"a join in which both signs change", plan(source, other, impl.Node{Kind: impl.JoinNode, B: 1, Key: 2}), one, one, zset(entry(-2, 1, 1)), zset(entry(-2, 1, 1)), nil},
		{"a row that stays distinct", plan(source, impl.Node{Kind: impl.DistinctNode}), zset(entry(2, 1, 1)), nil, negated(one), nil, nil},
		{"a group with the same count", plan(source, impl.Node{Kind: impl.ReduceNode, Agg: impl.Count}), one, nil, append(negated(one), two...), nil, nil},
		{"a group that disappears", plan(source, impl.Node{Kind: impl.ReduceNode, Key: 1, Agg: impl.Count}), both, nil, negated(one), nil, zset(entry(-1, 1, 1))},
		{"the last group disappears", plan(source, impl.Node{Kind: impl.ReduceNode, Agg: impl.Sum}), both, nil, negated(both), nil, zset(entry(-1, 3))},
		{"a group with the count 0", plan(source, impl.Node{Kind: impl.ReduceNode, Agg: impl.Count}), one, nil, negated(two), nil, zset(entry(-1, 1))},
		{"a group that two inputs have", plan(source, other, impl.Node{Kind: impl.UnionNode, B: 1}, impl.Node{Kind: impl.ReduceNode, A: 2, Key: 1, Agg: impl.Count}), one, two, negated(one), one, nil},
	}
	for _, c := range cases {
		widths := []int{2, 2}
		state := impl.EvalNodes(c.plan, widths, inputs(c.a, c.b))
		s := stepCase{plan: c.plan, widths: widths, deltas: inputs(c.da, c.db)}
		expectStep(t, "StepPlan: "+c.name, s, state, impl.EvalNodes(c.plan, widths, inputs(sumOf(c.a, c.da), sumOf(c.b, c.db))), c.want)
	}
}

func TestP49EveryStepKeepsAStateValid(t *testing.T) {
	r := newRandom()
	for range 1000 {
		widths := randomWidths(r)
		list := randomPlan(r, between(r, 1, impl.MaxNodes), widths)
		// This need not be the state after any steps.
		state := randomZSets(r, impl.PlanWidths(list, widths))
		c := stepCase{plan: list, widths: widths, deltas: randomDeltas(r, widths)}
		what := fmt.Sprintf("StepPlan: %v, state %v", c, state)
		expectBool(t, "ValidState for "+what, impl.ValidState(list, widths, state), true)
		next, change := stepByDefinition(list, state, c.deltas)
		expectStep(t, what, c, state, next, change)
		next, _ = impl.StepPlan(list, widths, state, c.deltas)
		expectBool(t, "ValidState after "+what, impl.ValidState(list, widths, next), true)
		c.deltas = make([][]impl.Entry, len(widths))
		expectStep(t, what+" without changes", c, state, state, nil)
	}
}

func TestP49WhatIsNotAZSetCountsAsEmpty(t *testing.T) {
	top, big := impl.MaxValue, impl.MaxWeight
	source := impl.Node{Kind: impl.Source}
	count := impl.Node{Kind: impl.ReduceNode, Key: 1, Agg: impl.Count}
	one := zset(entry(1, 1))
	cases := []struct {
		name   string
		plan   []impl.Node
		state  [][]impl.Entry
		delta  []impl.Entry
		next   [][]impl.Entry
		change []impl.Entry
	}{
		{"the largest weight", plan(source), inputs(zset(entry(big-1, 1))), one, inputs(zset(entry(big, 1))), one},
		{"a weight too large", plan(source), inputs(zset(entry(big, 1))), one, inputs(nil), one},
		{"the most entries", plan(source), inputs(numbered(2, impl.MaxEntries, 1)), one, inputs(numbered(1, impl.MaxEntries, 1)), one},
		{"too many entries", plan(source), inputs(numbered(2, impl.MaxEntries+1, 1)), one, inputs(nil), one},
		{"a change with the largest weight", plan(source, impl.Node{Kind: impl.UnionNode}), inputs(nil, one), zset(entry(big/2, 2)),
			inputs(zset(entry(big/2, 2)), zset(entry(1, 1), entry(big, 2))), zset(entry(big, 2))},
		{"a change with a weight too large", plan(source, impl.Node{Kind: impl.UnionNode}), inputs(nil, one), zset(entry(big/2+1, 2)),
			inputs(zset(entry(big/2+1, 2)), one), nil},
		{"a weight too large and a distinct row", plan(source, impl.Node{Kind: impl.DistinctNode}), inputs(zset(entry(big, 1)), one), numbered(1, 2, 1),
			inputs(nil, numbered(1, 2, 1)), zset(entry(1, 2))},
		{"the largest count", plan(source, count), inputs(zset(entry(top-1, 1)), zset(entry(1, 1, top-1))), one,
			inputs(zset(entry(top, 1)), zset(entry(1, 1, top))), zset(entry(-1, 1, top-1), entry(1, 1, top))},
		{"a count too large", plan(source, count), inputs(zset(entry(top, 1)), zset(entry(1, 1, top))), one,
			inputs(zset(entry(top+1, 1)), nil), zset(entry(-1, 1, top))},
		{"a count too large in another group", plan(source, count), inputs(zset(entry(top+1, 2)), nil), one,
			inputs(zset(entry(1, 1), entry(top+1, 2)), zset(entry(1, 1, 1))), zset(entry(1, 1, 1))},
		{"a state that is not a value", plan(source, impl.Node{Kind: impl.DistinctNode}), inputs(nil, one), one, inputs(one, zset(entry(2, 1))), one},
	}
	for _, c := range cases {
		s := stepCase{plan: c.plan, widths: []int{1}, deltas: inputs(c.delta)}
		expectStep(t, "StepPlan: "+c.name, s, c.state, c.next, c.change)
	}
}

func TestP49ValidStateIsTheDefinition(t *testing.T) {
	all := slices.Concat(sources(), nodesOfEachKind())
	widths := impl.PlanWidths(all, threeWidths())
	empty := make([][]impl.Entry, len(all))
	var state [][]impl.Entry
	for _, width := range widths {
		state = append(state, zset(entry(-7, repeated(width, 1)...)))
	}
	expectBool(t, "ValidState", impl.ValidState(all, threeWidths(), state), true)
	expectBool(t, "ValidState of empty values", impl.ValidState(all, threeWidths(), empty), true)
	expectBool(t, "ValidState of no values", impl.ValidState(all, threeWidths(), nil), false)
	expectBool(t, "ValidState of a value less", impl.ValidState(all, threeWidths(), state[:len(all)-1]), false)
	expectBool(t, "ValidState of an empty value more", impl.ValidState(all, threeWidths(), append(slices.Clone(state), nil)), false)
	for i, width := range widths {
		for other := 1; other <= impl.MaxWidth; other++ {
			changed := slices.Clone(state)
			changed[i] = zset(entry(1, repeated(other, 1)...))
			expectBool(t, fmt.Sprintf("ValidState with the width %d of the node %d", other, i), impl.ValidState(all, threeWidths(), changed), other == width)
		}
	}
	for name, z := range invalidZSets() {
		for width := 1; width <= 2; width++ {
			expectBool(t, "ValidState: "+name, impl.ValidState(sources()[:1], []int{width}, inputs(z)), false)
			list := plan(impl.Node{Kind: impl.Source}, impl.Node{Kind: impl.NegateNode})
			expectBool(t, "ValidState, last: "+name, impl.ValidState(list, []int{width}, inputs(nil, z)), false)
		}
	}
}

// expectNoPlan expects the results for an invalid plan or invalid widths.
func expectNoPlan(t *testing.T, what string, list []impl.Node, widths []int) {
	t.Helper()
	empty, deltas := make([][]impl.Entry, len(list)), make([][]impl.Entry, len(widths))
	expectBool(t, "ValidState: "+what, impl.ValidState(list, widths, empty), false)
	expectBool(t, "ValidState of nothing: "+what, impl.ValidState(list, widths, nil), false)
	expectZSets(t, "EmptyState: "+what, impl.EmptyState(list, widths), nil)
	c := stepCase{plan: list, widths: widths, deltas: deltas}
	expectStep(t, "StepPlan: "+what, c, empty, nil, nil)
	expectStep(t, "StepPlan of nothing: "+what, c, nil, nil, nil)
	expectZSets(t, "RunSteps: "+what, impl.RunSteps(list, widths, [][][]impl.Entry{deltas}), nil)
	expectZSets(t, "RunSteps without steps: "+what, impl.RunSteps(list, widths, nil), nil)
}

func TestP49InvalidPlans(t *testing.T) {
	for name, n := range invalidLastNodes() {
		expectNoPlan(t, name, append(sources(), n), threeWidths())
	}
	for _, widths := range badWidths() {
		expectNoPlan(t, fmt.Sprint("widths ", widths), sources()[:1], widths)
	}
	for _, list := range [][]impl.Node{nil, {}, longestPlan(1)} {
		expectNoPlan(t, fmt.Sprintf("%d nodes", len(list)), list, []int{2})
	}
	list := longestPlan(0)
	deltas := inputs(zset(entry(2, 1, 5)))
	want := negated(deltas[0])
	next, change := impl.StepPlan(list, []int{2}, impl.EmptyState(list, []int{2}), deltas)
	expectZSets(t, "the state of the longest plan", next, impl.EvalNodes(list, []int{2}, deltas))
	expectZSet(t, "the change of the longest plan", change, want)
	expectZSets(t, "RunSteps of the longest plan", impl.RunSteps(list, []int{2}, [][][]impl.Entry{deltas}), inputs(want))
}

// invalidDeltas has changes that are not valid for inputs of the widths 1 and 2.
func invalidDeltas() map[string][][]impl.Entry {
	one, pair := zset(entry(1, 1)), zset(entry(1, 1, 2))
	list := map[string][][]impl.Entry{
		"no changes":        nil,
		"one change":        inputs(one),
		"too many changes":  inputs(one, pair, nil),
		"widths exchanged":  inputs(pair, one),
		"first width wrong": inputs(pair, pair),
		"last width wrong":  inputs(one, one),
	}
	for name, z := range invalidZSets() {
		list["first: "+name] = inputs(z, pair)
		list["last: "+name] = inputs(one, z)
	}
	return list
}

func TestP49InvalidStatesAndChanges(t *testing.T) {
	one, pair := zset(entry(1, 1)), zset(entry(1, 1, 2))
	widths := []int{1, 2}
	list := plan(impl.Node{Kind: impl.Source}, impl.Node{Kind: impl.Source, A: 1})
	valid := stepCase{plan: list, widths: widths, deltas: inputs(one, pair)}
	expectStep(t, "StepPlan", valid, inputs(one, pair), inputs(zset(entry(2, 1)), zset(entry(2, 1, 2))), pair)
	for name, bad := range invalidDeltas() {
		expectStep(t, "StepPlan with a state: "+name, valid, bad, nil, nil)
		c := stepCase{plan: list, widths: widths, deltas: bad}
		expectStep(t, "StepPlan with changes: "+name, c, inputs(one, pair), nil, nil)
		c.plan = list[:1]
		expectStep(t, "StepPlan with changes of one input: "+name, c, inputs(one), nil, nil)
		for _, steps := range [][][][]impl.Entry{{bad}, {bad, inputs(one, pair)}, {inputs(one, pair), inputs(one, pair), bad}} {
			expectZSets(t, "RunSteps: "+name, impl.RunSteps(list[:1], widths, steps), nil)
		}
	}
}

func TestP50AStepCanBeTakenBack(t *testing.T) {
	r := newRandom()
	for range 1000 {
		c := randomStepCase(r)
		back := stepCase{plan: c.plan, widths: c.widths, inputs: added(c.inputs, c.deltas), deltas: negatedAll(c.deltas), before: c.after, after: c.before}
		if !canStep(back.plan, back.before, back.after) {
			continue
		}
		state := impl.EvalNodes(c.plan, c.widths, c.inputs)
		next, change := impl.StepPlan(c.plan, c.widths, state, c.deltas)
		expectStep(t, fmt.Sprint("StepPlan, taken back: ", c), back, next, state, negated(change))
	}
}

func TestP51WithoutInputThereIsNoOutput(t *testing.T) {
	r := newRandom()
	for range 500 {
		widths := randomWidths(r)
		list := randomPlan(r, between(r, 1, impl.MaxNodes), widths)
		what := fmt.Sprintf("(%v, %v)", list, widths)
		state, empty := impl.EmptyState(list, widths), make([][]impl.Entry, len(widths))
		expectZSets(t, "EmptyState"+what, state, make([][]impl.Entry, len(list)))
		expectBool(t, "ValidState of EmptyState"+what, impl.ValidState(list, widths, state), true)
		expectZSets(t, "EvalNodes of empty inputs"+what, impl.EvalNodes(list, widths, empty), state)
		expectZSets(t, "RunSteps without changes"+what, impl.RunSteps(list, widths, [][][]impl.Entry{empty, empty}), make([][]impl.Entry, 2))
	}
}

// randomSteps returns changes of inputs and the accumulated inputs after each of them,
// for which every Z-set on the way can be represented.
func randomSteps(r *rand.Rand, list []impl.Node, widths []int, n int) (steps [][][]impl.Entry, accumulated [][][]impl.Entry) {
	zs := make([][]impl.Entry, len(widths))
	before, _ := evaluated(list, zs)
	for range n {
		deltas := randomDeltas(r, widths)
		changed := added(zs, deltas)
		after, tooLarge := evaluated(list, changed)
		if tooLarge == 0 && canStep(list, before, after) {
			steps, accumulated = append(steps, deltas), append(accumulated, changed)
			zs, before = changed, after
		}
	}
	return steps, accumulated
}

func TestP52ChangesAccumulateToTheResult(t *testing.T) {
	r := newRandom()
	total := 0
	for range 300 {
		widths := randomWidths(r)
		list := randomPlan(r, between(r, 1, impl.MaxNodes), widths)
		steps, accumulated := randomSteps(r, list, widths, impl.MaxSteps)
		what := fmt.Sprintf("RunSteps(%v, %v, %v)", list, widths, steps)
		changes := impl.RunSteps(list, widths, steps)
		if len(changes) != len(steps) {
			t.Fatalf("%s has %d changes", what, len(changes))
		}
		var sum, former []impl.Entry
		for i, change := range changes {
			sum = impl.Add(sum, change)
			value := impl.EvalPlan(list, widths, accumulated[i])
			expectZSet(t, what, sum, value)
			expectZSet(t, what, change, minus(value, former))
			former = value
		}
		total += len(steps)
	}
	if total < 3000 {
		t.Errorf("only %d steps", total)
	}
}

func TestP52RunStepsLimitsTheSteps(t *testing.T) {
	if impl.MaxSteps != 20 {
		t.Errorf("MaxSteps = %d", impl.MaxSteps)
	}
	one := zset(entry(1, 1))
	list := plan(impl.Node{Kind: impl.Source}, impl.Node{Kind: impl.DistinctNode}, impl.Node{Kind: impl.ReduceNode, A: 1, Agg: impl.Count})
	for n := range impl.MaxSteps + 5 {
		steps := slices.Repeat([][][]impl.Entry{inputs(one)}, n)
		var first, counts [][]impl.Entry
		if n <= impl.MaxSteps {
			first, counts = slices.Repeat(inputs(one), n), make([][]impl.Entry, n)
			if n > 0 {
				counts[0] = one
			}
		}
		expectZSets(t, fmt.Sprintf("RunSteps of %d steps", n), impl.RunSteps(list[:1], []int{1}, steps), first)
		expectZSets(t, fmt.Sprintf("RunSteps of %d steps with a count", n), impl.RunSteps(list, []int{1}, steps), counts)
	}
}

func TestP53LaterChangesDoNotAffectEarlierResults(t *testing.T) {
	r := newRandom()
	for range 300 {
		widths := randomWidths(r)
		list := randomPlan(r, between(r, 1, impl.MaxNodes), widths)
		var steps [][][]impl.Entry
		for range between(r, 1, 8) {
			steps = append(steps, randomDeltas(r, widths))
		}
		changes := impl.RunSteps(list, widths, steps)
		state := impl.EmptyState(list, widths)
		for n, deltas := range steps {
			what := fmt.Sprintf("RunSteps(%v, %v, %v) of %d steps", list, widths, steps, n)
			expectZSets(t, what, impl.RunSteps(list, widths, steps[:n]), changes[:n])
			var change []impl.Entry
			state, change = impl.StepPlan(list, widths, state, deltas)
			expectZSet(t, "StepPlan for "+what, changes[n], change)
		}
	}
}

func TestStepFunctionsReturnNewMemory(t *testing.T) {
	all := slices.Concat(sources(), nodesOfEachKind())
	zs := inputs(zset(entry(2, 1, 4), entry(-1, 2, 5)), zset(entry(1, 1, 4, 7), entry(3, 2, 5, 5)), zset(entry(-2, 1, 4), entry(5, 3, 3)))
	deltas := inputs(zset(entry(3, 1, 3), entry(1, 2, 5)), zset(entry(1, 0, 4, 7), entry(-3, 2, 5, 5)), zset(entry(3, 1, 4), entry(5, 3, 4)))
	expectFresh(t, "EmptyState", impl.EmptyState, all, threeWidths())
	for n := 1; n <= len(all); n++ {
		list := all[:n]
		empty := impl.EmptyState(list, threeWidths())
		state := impl.EvalNodes(list, threeWidths(), zs)
		expectFresh(t, fmt.Sprintf("StepPlan of %d nodes", n), impl.StepPlan, list, threeWidths(), state, deltas)
		expectFresh(t, fmt.Sprintf("StepPlan of %d nodes from nothing", n), impl.StepPlan, list, threeWidths(), empty, deltas)
		expectFresh(t, fmt.Sprintf("StepPlan of %d nodes without changes", n), impl.StepPlan, list, threeWidths(), state, inputs(nil, nil, nil))
		expectFresh(t, fmt.Sprintf("RunSteps of %d nodes", n), impl.RunSteps, list, threeWidths(), [][][]impl.Entry{zs, deltas, deltas})
	}
}
