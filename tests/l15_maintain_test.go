package tests

import (
	"fmt"
	"math/rand/v2"
	"slices"
	"testing"

	"loop.example/dataflow/impl"
)

// unionOfSets is the reference for the union of two sets.
func unionOfSets(a []impl.Entry, b []impl.Entry) []impl.Entry {
	return distinctOf(sumOf(a, b))
}

// setMinus is the reference for the difference of two sets.
func setMinus(a []impl.Entry, b []impl.Entry) []impl.Entry {
	return distinctOf(minus(a, b))
}

// commonOf is the reference for the intersection of two sets.
func commonOf(a []impl.Entry, b []impl.Entry) []impl.Entry {
	return setMinus(a, setMinus(a, b))
}

// pairsOverAny is the reference for Overdelete: it walks from each vertex along the edges, and notes whether it
// has come over one of the given ones. This can happen on a walk that comes to a vertex once more.
func pairsOverAny(edges []impl.Entry, over []impl.Entry) []impl.Entry {
	type place struct {
		vertex int
		isOver bool
	}
	var pairs []impl.Entry
	for x := range vertexCount {
		seen := map[place]bool{}
		next := []place{{vertex: x}}
		for len(next) > 0 {
			p := next[0]
			next = next[1:]
			for _, e := range edges {
				if e.Row[0] != p.vertex {
					continue
				}
				q := place{e.Row[1], p.isOver || hasPair(over, e.Row[0], e.Row[1])}
				if !seen[q] {
					seen[q] = true
					next = append(next, q)
				}
			}
		}
		for y := range vertexCount {
			if seen[place{y, true}] {
				pairs = append(pairs, entry(1, x, y))
			}
		}
	}
	return pairs
}

// maintainCase has edges and other edges that are added or go.
type maintainCase struct {
	edges, changed []impl.Entry
}

func (c maintainCase) String() string {
	return fmt.Sprintf("(%v, %v)", c.edges, c.changed)
}

func (c maintainCase) closed() []impl.Entry {
	return distancesOf(c.edges).all()
}

// added returns the closure with the changed edges.
func (c maintainCase) added() []impl.Entry {
	return distancesOf(unionOfSets(c.edges, c.changed)).all()
}

// remaining returns the closure without the changed edges.
func (c maintainCase) remaining() []impl.Entry {
	return distancesOf(setMinus(c.edges, c.changed)).all()
}

// randomChanged returns some of the edges, some others, or both.
func randomChanged(r *rand.Rand, edges []impl.Entry) []impl.Entry {
	var changed []impl.Entry
	kind := r.IntN(3)
	if kind > 0 {
		changed = partOf(r, edges)
	}
	if kind < 2 {
		others := randomEdges(r)
		changed = unionOfSets(changed, others[:min(len(others), r.IntN(6))])
	}
	return changed
}

// someMaintainCases returns all cases with two vertices, and cases of named and of random graphs.
func someMaintainCases(n int) []maintainCase {
	var cases []maintainCase
	for edges := range 1 << 4 {
		for changed := range 1 << 4 {
			cases = append(cases, maintainCase{pairsOf(2, edges), pairsOf(2, changed)})
		}
	}
	for _, edges := range namedGraphs() {
		cases = append(cases, maintainCase{edges, nil}, maintainCase{edges, edges}, maintainCase{nil, edges}, maintainCase{edges, allPairs(vertexCount)})
		for i := range edges[:min(len(edges), vertexCount)] {
			cases = append(cases, maintainCase{edges, edges[i : i+1]})
		}
	}
	r := newRandom()
	for _, edges := range someGraphs(n) {
		cases = append(cases, maintainCase{edges, randomChanged(r, edges)})
	}
	return cases
}

func TestP73InsertionsAreExact(t *testing.T) {
	changes := 0
	for _, c := range someMaintainCases(700) {
		what := fmt.Sprint("ClosureInsert", c)
		closed := impl.Closure(c.edges)
		more := impl.ClosureInsert(c.edges, closed, c.changed)
		expectZSet(t, what, more, setMinus(c.added(), c.closed()))
		expectZSet(t, what+" has pairs that are there", commonOf(more, closed), nil)
		expectZSet(t, what+" with the closure", sumOf(closed, more), impl.Closure(unionOfSets(c.edges, c.changed)))
		if len(more) > 0 {
			changes++
		}
	}
	if changes < 200 {
		t.Errorf("only %d closures change", changes)
	}
}

func TestP73Insertions(t *testing.T) {
	all := allPairs(vertexCount)
	cases := []struct {
		name              string
		edges, more, want []impl.Entry
	}{
		{"nothing to nothing", nil, nil, nil},
		{"nothing", lineOf(0, 3), nil, nil},
		{"the first edges", nil, lineOf(0, 2), edgeList([2]int{0, 1}, [2]int{0, 2}, [2]int{1, 2})},
		{"edges that are there", lineOf(0, 3), lineOf(1, 3), nil},
		{"an edge that is a pair of the closure", lineOf(0, 3), edgeList([2]int{0, 2}), nil},
		{"an edge that is there and another one", lineOf(0, 1), lineOf(0, 2), edgeList([2]int{0, 2}, [2]int{1, 2})},
		{"an edge between two lines", sumOf(lineOf(0, 1), lineOf(2, 3)), lineOf(1, 2), edgeList([2]int{0, 2}, [2]int{0, 3}, [2]int{1, 2}, [2]int{1, 3})},
		{"an edge that closes a cycle", lineOf(0, 2), edgeList([2]int{2, 0}), edgeList([2]int{0, 0}, [2]int{1, 0}, [2]int{1, 1}, [2]int{2, 0}, [2]int{2, 1}, [2]int{2, 2})},
		{"edges that meet each other only", lineOf(0, 1), lineOf(5, 7), edgeList([2]int{5, 6}, [2]int{5, 7}, [2]int{6, 7})},
		{"a loop", lineOf(0, 1), edgeList([2]int{1, 1}), edgeList([2]int{1, 1})},
		{"the edge of the longest cycle", lineOf(0, impl.MaxVertex), edgeList([2]int{impl.MaxVertex, 0}), setMinus(all, distancesOf(lineOf(0, impl.MaxVertex)).all())},
		{"all pairs", nil, all, all},
		{"all pairs to all pairs", all, all, nil},
	}
	for _, c := range cases {
		expectZSet(t, "ClosureInsert: "+c.name, impl.ClosureInsert(c.edges, impl.Closure(c.edges), c.more), c.want)
	}
}

func TestP74DeletionsAreExact(t *testing.T) {
	changes := 0
	for _, c := range someMaintainCases(700) {
		what := fmt.Sprint("ClosureDelete", c)
		closed := impl.Closure(c.edges)
		less := impl.ClosureDelete(c.edges, closed, c.changed)
		expectZSet(t, what, less, setMinus(c.closed(), c.remaining()))
		expectZSet(t, "the closure without "+what, minus(closed, less), impl.Closure(setMinus(c.edges, c.changed)))
		if len(less) > 0 {
			changes++
		}
	}
	if changes < 200 {
		t.Errorf("only %d closures change", changes)
	}
}

// deletionCase has what is overdeleted, and what is rederived of it.
type deletionCase struct {
	name                           string
	edges, gone, over, rederivable []impl.Entry
}

func deletionCases() []deletionCase {
	all := allPairs(vertexCount)
	cycle := cycleOf(0, impl.MaxVertex)
	return []deletionCase{
		{"nothing from nothing", nil, nil, nil, nil},
		{"nothing", cycleOf(0, 2), nil, nil, nil},
		{"edges that are not there", lineOf(0, 2), edgeList([2]int{0, 2}, [2]int{2, 0}, [2]int{5, 6}), nil, nil},
		{"edges of nothing", nil, all, nil, nil},
		{"the first edge of a line", lineOf(0, 3), lineOf(0, 1), edgeList([2]int{0, 1}, [2]int{0, 2}, [2]int{0, 3}), nil},
		{"the middle edge of a line", lineOf(0, 3), lineOf(1, 2), edgeList([2]int{0, 2}, [2]int{0, 3}, [2]int{1, 2}, [2]int{1, 3}), nil},
		{"an edge beside a path", edgeList([2]int{0, 1}, [2]int{1, 2}, [2]int{0, 2}), edgeList([2]int{0, 2}), edgeList([2]int{0, 2}), edgeList([2]int{0, 2})},
		{"an edge of a path beside an edge", edgeList([2]int{0, 1}, [2]int{1, 2}, [2]int{0, 2}), edgeList([2]int{0, 1}), edgeList([2]int{0, 1}, [2]int{0, 2}), edgeList([2]int{0, 2})},
		{"both paths of a pair", edgeList([2]int{0, 1}, [2]int{1, 3}, [2]int{0, 2}, [2]int{2, 3}), edgeList([2]int{0, 1}, [2]int{2, 3}),
			edgeList([2]int{0, 1}, [2]int{0, 3}, [2]int{2, 3}), nil},
		{"one of both paths of a pair", edgeList([2]int{0, 1}, [2]int{1, 3}, [2]int{0, 2}, [2]int{2, 3}), edgeList([2]int{0, 1}, [2]int{1, 3}),
			edgeList([2]int{0, 1}, [2]int{0, 3}, [2]int{1, 3}), edgeList([2]int{0, 3})},
		{"a path over two edges that go", lineOf(0, 2), lineOf(0, 2), edgeList([2]int{0, 1}, [2]int{0, 2}, [2]int{1, 2}), nil},
		{"a loop on a path", sumOf(lineOf(0, 2), edgeList([2]int{1, 1})), edgeList([2]int{1, 1}),
			edgeList([2]int{0, 1}, [2]int{0, 2}, [2]int{1, 1}, [2]int{1, 2}), edgeList([2]int{0, 1}, [2]int{0, 2}, [2]int{1, 2})},
		{"an edge of a cycle", cycleOf(0, 2), edgeList([2]int{2, 0}), allPairs(3), edgeList([2]int{0, 1}, [2]int{0, 2}, [2]int{1, 2})},
		{"an edge from a cycle", sumOf(cycleOf(0, 1), edgeList([2]int{1, 2})), edgeList([2]int{1, 2}), edgeList([2]int{0, 2}, [2]int{1, 2}), nil},
		{"an edge to a cycle", sumOf(cycleOf(1, 2), edgeList([2]int{0, 1})), edgeList([2]int{0, 1}), edgeList([2]int{0, 1}, [2]int{0, 2}), nil},
		{"an edge beside the cycle of a pair", sumOf(cycleOf(0, 1), cycleOf(5, 6)), edgeList([2]int{5, 6}), edgeList([2]int{5, 5}, [2]int{5, 6}, [2]int{6, 5}, [2]int{6, 6}), edgeList([2]int{6, 5})},
		{"an edge of the longest cycle", cycle, edgeList([2]int{impl.MaxVertex, 0}), all, distancesOf(lineOf(0, impl.MaxVertex)).all()},
		{"all edges of the longest cycle", cycle, cycle, all, nil},
		{"one of all pairs", all, all[:1], all, all},
		{"all pairs", all, all, all, nil},
		{"all pairs of a line", lineOf(0, 2), all, edgeList([2]int{0, 1}, [2]int{0, 2}, [2]int{1, 2}), nil},
	}
}

func TestP74Deletions(t *testing.T) {
	for _, c := range deletionCases() {
		closed := impl.Closure(c.edges)
		expectZSet(t, "ClosureDelete: "+c.name, impl.ClosureDelete(c.edges, closed, c.gone), setMinus(c.over, c.rederivable))
	}
}

func TestP75OverdeletionAndRederivationGiveTheDeletions(t *testing.T) {
	for _, c := range deletionCases() {
		expectZSet(t, "Overdelete: "+c.name, impl.Overdelete(c.edges, impl.Closure(c.edges), c.gone), c.over)
	}
	for _, c := range someMaintainCases(700) {
		what := fmt.Sprint("Overdelete", c)
		closed := impl.Closure(c.edges)
		over := impl.Overdelete(c.edges, closed, c.changed)
		gone := commonOf(c.edges, c.changed)
		expectZSet(t, what, over, pairsOverAny(c.edges, gone))
		expectZSet(t, what, over, sumOf(impl.Rederive(c.edges, closed, c.changed), impl.ClosureDelete(c.edges, closed, c.changed)))
		expectBool(t, what+" contains the removed edges", contains(over, gone), true)
		expectBool(t, what+" is contained in the closure", contains(closed, over), true)
	}
}

func TestP76RederivedPairsHaveAnotherPath(t *testing.T) {
	for _, c := range deletionCases() {
		expectZSet(t, "Rederive: "+c.name, impl.Rederive(c.edges, impl.Closure(c.edges), c.gone), c.rederivable)
	}
	rederived := 0
	for _, c := range someMaintainCases(700) {
		what := fmt.Sprint("Rederive", c)
		closed := impl.Closure(c.edges)
		again := impl.Rederive(c.edges, closed, c.changed)
		expectZSet(t, what, again, commonOf(pairsOverAny(c.edges, commonOf(c.edges, c.changed)), c.remaining()))
		expectBool(t, what+" is overdeleted", contains(impl.Overdelete(c.edges, closed, c.changed), again), true)
		expectBool(t, what+" remains", contains(impl.Closure(setMinus(c.edges, c.changed)), again), true)
		if len(again) > 0 {
			rederived++
		}
	}
	if rederived < 100 {
		t.Errorf("only %d closures have pairs to rederive", rederived)
	}
}

func TestP77DeletingWhatWasInsertedRestoresTheClosure(t *testing.T) {
	for _, c := range someMaintainCases(700) {
		added := setMinus(c.changed, c.edges)
		what := fmt.Sprintf("inserting %v into %v", added, c.edges)
		closed := impl.Closure(c.edges)
		more := impl.ClosureInsert(c.edges, closed, added)
		less := impl.ClosureDelete(sumOf(c.edges, added), sumOf(closed, more), added)
		expectZSet(t, "deleting after "+what, less, more)
	}
}

// expectNoChange expects the results for invalid arguments.
func expectNoChange(t *testing.T, what string, edges []impl.Entry, closed []impl.Entry, changed []impl.Entry) {
	t.Helper()
	expectZSet(t, "ClosureInsert: "+what, impl.ClosureInsert(edges, closed, changed), nil)
	expectZSet(t, "Overdelete: "+what, impl.Overdelete(edges, closed, changed), nil)
	expectZSet(t, "Rederive: "+what, impl.Rederive(edges, closed, changed), nil)
	expectZSet(t, "ClosureDelete: "+what, impl.ClosureDelete(edges, closed, changed), nil)
}

func TestP73InvalidEdgesAreNotMaintained(t *testing.T) {
	edges, changed := cycleOf(0, 2), edgeList([2]int{1, 2}, [2]int{2, 5})
	for name, bad := range invalidEdges() {
		expectNoChange(t, "edges: "+name, bad, impl.Closure(bad), changed)
		expectNoChange(t, "edges that are their closure: "+name, bad, bad, changed)
		expectNoChange(t, "closure: "+name, edges, bad, changed)
		expectNoChange(t, "closure of nothing: "+name, nil, bad, changed)
		expectNoChange(t, "changed edges: "+name, edges, impl.Closure(edges), bad)
		expectNoChange(t, "changed edges of nothing: "+name, nil, nil, bad)
		expectNoChange(t, "all: "+name, bad, bad, bad)
	}
}

func TestP73OnlyTheClosureIsMaintained(t *testing.T) {
	r := newRandom()
	for _, edges := range someGraphs(200) {
		closed := impl.Closure(edges)
		changed := unionOfSets(randomChanged(r, edges), edgeList([2]int{0, 1}, [2]int{1, 0}))
		for i := range closed {
			less := slices.Delete(slices.Clone(closed), i, i+1)
			expectNoChange(t, fmt.Sprintf("edges %v without the pair %d", edges, i), edges, less, changed)
		}
		for _, e := range setMinus(allPairs(vertexCount), closed)[:min(10, vertexCount*vertexCount-len(closed))] {
			more := sumOf(closed, zset(e))
			expectNoChange(t, fmt.Sprintf("edges %v with the pair %v", edges, e), edges, more, changed)
		}
		if len(closed) > 0 {
			twice := sumOf(closed, closed[len(closed)-1:])
			expectNoChange(t, fmt.Sprintf("edges %v with a weight of 2", edges), edges, twice, changed)
			expectNoChange(t, fmt.Sprintf("edges %v with opposite weights", edges), edges, negated(closed), changed)
			expectNoChange(t, fmt.Sprintf("edges %v with a row twice", edges), edges, slices.Insert(slices.Clone(closed), 0, closed[0]), changed)
		}
		if len(closed) > 1 {
			reversed := slices.Clone(closed)
			slices.Reverse(reversed)
			expectNoChange(t, fmt.Sprintf("edges %v in reverse", edges), edges, reversed, changed)
		}
		if len(closed) > len(edges) {
			expectNoChange(t, fmt.Sprintf("edges %v as the closure", edges), edges, edges, changed)
		}
	}
}

func TestMaintainingReturnsNewMemory(t *testing.T) {
	for name, edges := range namedGraphs() {
		closed := impl.Closure(edges)
		all := allPairs(vertexCount)
		if len(closed) < len(all) {
			expectFresh(t, "ClosureInsert: "+name, impl.ClosureInsert, edges, closed, all)
		}
		if len(edges) > 0 {
			expectFresh(t, "Overdelete: "+name, impl.Overdelete, edges, closed, all)
			expectFresh(t, "ClosureDelete: "+name, impl.ClosureDelete, edges, closed, edges)
		}
	}
	edges := namedGraphs()["several paths"]
	expectFresh(t, "Rederive", impl.Rederive, edges, impl.Closure(edges), edgeList([2]int{0, 1}))
}
