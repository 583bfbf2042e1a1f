package tests

import (
	"fmt"
	"math"
	"math/rand/v2"
	"slices"
	"testing"

	"loop.example/dataflow/impl"
)

const vertexCount = impl.MaxVertex + 1

// edgeList returns the set of the given pairs, which may be in any order.
func edgeList(pairs ...[2]int) []impl.Entry {
	var edges []impl.Entry
	for _, p := range pairs {
		edges = append(edges, entry(1, p[0], p[1]))
	}
	return distinctOf(sumOf(edges))
}

// cycleOf returns the edges low, low+1, .. high, low.
func cycleOf(low int, high int) []impl.Entry {
	return sumOf(lineOf(low, high), edgeList([2]int{high, low}))
}

// lineOf returns the edges low, low+1, .. high.
func lineOf(low int, high int) []impl.Entry {
	var edges []impl.Entry
	for x := low; x < high; x++ {
		edges = append(edges, entry(1, x, x+1))
	}
	return edges
}

// allPairs returns all pairs of the vertices 0, 1, .. n-1.
func allPairs(n int) []impl.Entry {
	var edges []impl.Entry
	for x := range n {
		for y := range n {
			edges = append(edges, entry(1, x, y))
		}
	}
	return edges
}

// pairsOf returns the pairs of the vertices 0, 1, .. n-1 for the bits of a number: one bit for each pair in order.
func pairsOf(n int, bits int) []impl.Entry {
	var edges []impl.Entry
	for i, e := range allPairs(n) {
		if bits>>i&1 == 1 {
			edges = append(edges, e)
		}
	}
	return edges
}

// randomEdges returns edges between some of the vertices, few or many of them.
func randomEdges(r *rand.Rand) []impl.Entry {
	vertices := r.Perm(vertexCount)[:between(r, 1, vertexCount)]
	var edges []impl.Entry
	for range r.IntN(2*len(vertices) + 2) {
		edges = append(edges, entry(1, vertices[r.IntN(len(vertices))], vertices[r.IntN(len(vertices))]))
	}
	return distinctOf(sumOf(edges))
}

// partOf returns some of the entries.
func partOf(r *rand.Rand, edges []impl.Entry) []impl.Entry {
	var part []impl.Entry
	keep := between(r, 1, 9)
	for _, e := range edges {
		if r.IntN(10) < keep {
			part = append(part, e)
		}
	}
	return part
}

func hasPair(edges []impl.Entry, x int, y int) bool {
	return slices.ContainsFunc(edges, func(e impl.Entry) bool { return e.Row[0] == x && e.Row[1] == y })
}

func contains(edges []impl.Entry, part []impl.Entry) bool {
	return !slices.ContainsFunc(part, func(e impl.Entry) bool { return !hasPair(edges, e.Row[0], e.Row[1]) })
}

// distanceTable has the distances of all pairs, and 0 where there is no path.
type distanceTable [vertexCount][vertexCount]int

// distancesOf is the reference for distances: it admits one vertex after the other between the ends of a path.
func distancesOf(edges []impl.Entry) distanceTable {
	var d distanceTable
	for _, e := range edges {
		d[e.Row[0]][e.Row[1]] = 1
	}
	for via := range d {
		for x := range d {
			for y := range d {
				n := d[x][via] + d[via][y]
				isPath := d[x][via] > 0 && d[via][y] > 0
				if isPath && (d[x][y] == 0 || n < d[x][y]) {
					d[x][y] = n
				}
			}
		}
	}
	return d
}

// pairsAt returns the pairs with a distance that passes a test.
func (d distanceTable) pairsAt(test func(n int) bool) []impl.Entry {
	var pairs []impl.Entry
	for x := range d {
		for y, n := range d[x] {
			if n > 0 && test(n) {
				pairs = append(pairs, entry(1, x, y))
			}
		}
	}
	return pairs
}

func (d distanceTable) all() []impl.Entry {
	return d.pairsAt(func(int) bool { return true })
}

// rounds is the reference for ClosureRounds.
func (d distanceTable) rounds() [][]impl.Entry {
	var rounds [][]impl.Entry
	for distance := 1; ; distance++ {
		round := d.pairsAt(func(n int) bool { return n == distance })
		if len(round) == 0 {
			return rounds
		}
		rounds = append(rounds, round)
	}
}

// hops is the reference for Hops.
func (d distanceTable) hops(source int) []impl.Entry {
	var hops []impl.Entry
	for y, n := range d[source] {
		if n > 0 {
			hops = append(hops, entry(1, y, n))
		}
	}
	return hops
}

// isTransitiveSet is the reference for IsTransitive.
func isTransitiveSet(edges []impl.Entry) bool {
	for _, a := range edges {
		for _, b := range edges {
			if a.Row[1] == b.Row[0] && !hasPair(edges, a.Row[0], b.Row[1]) {
				return false
			}
		}
	}
	return true
}

// namedGraphs has graphs at the edges of what is valid.
func namedGraphs() map[string][]impl.Entry {
	full := allPairs(vertexCount)
	return map[string][]impl.Entry{
		"no edges":                      nil,
		"one edge":                      edgeList([2]int{3, 5}),
		"one edge between the extremes": edgeList([2]int{impl.MaxVertex, 0}),
		"a loop":                        edgeList([2]int{impl.MaxVertex, impl.MaxVertex}),
		"a cycle of two":                cycleOf(4, 5),
		"the longest cycle":             cycleOf(0, impl.MaxVertex),
		"the longest line":              lineOf(0, impl.MaxVertex),
		"all pairs":                     full,
		"all pairs without loops":       slices.DeleteFunc(slices.Clone(full), func(e impl.Entry) bool { return e.Row[0] == e.Row[1] }),
		"all pairs in order":            slices.DeleteFunc(slices.Clone(full), func(e impl.Entry) bool { return e.Row[0] >= e.Row[1] }),
		"two cycles with an edge":       sumOf(cycleOf(0, 3), cycleOf(10, 16), edgeList([2]int{2, 12})),
		"two parts":                     sumOf(lineOf(0, 3), cycleOf(5, 7)),
		"several paths":                 edgeList([2]int{0, 1}, [2]int{0, 2}, [2]int{1, 3}, [2]int{2, 3}, [2]int{0, 4}, [2]int{4, 5}, [2]int{5, 3}, [2]int{3, 6}),
		"a longer and a shorter path":   sumOf(lineOf(0, 9), edgeList([2]int{0, 8}, [2]int{2, 7})),
		"a cycle with a shortcut":       sumOf(cycleOf(0, 9), edgeList([2]int{3, 8})),
		"a loop beside a cycle":         sumOf(cycleOf(0, 4), edgeList([2]int{2, 2})),
	}
}

// someGraphs returns the named graphs and random ones.
func someGraphs(n int) [][]impl.Entry {
	var graphs [][]impl.Entry
	for _, edges := range namedGraphs() {
		graphs = append(graphs, edges)
	}
	r := newRandom()
	for range n {
		graphs = append(graphs, randomEdges(r))
	}
	return graphs
}

// invalidEdges has a list for each way not to be edges.
func invalidEdges() map[string][]impl.Entry {
	lists := map[string][]impl.Entry{
		"rows descend":      zset(entry(1, 1, 2), entry(1, 0, 5)),
		"a row twice":       zset(entry(1, 1, 2), entry(1, 1, 2)),
		"rows of one":       zset(entry(1, 1), entry(1, 2)),
		"rows of three":     zset(entry(1, 0, 1, 2)),
		"widths differ":     zset(entry(1, 1, 2), entry(1, 2)),
		"wider at last":     zset(entry(1, 1, 2), entry(1, 1, 2, 3)),
		"too many entries":  append(allPairs(vertexCount), entry(1, vertexCount, 0)),
		"entries once more": append(allPairs(vertexCount), allPairs(vertexCount)...),
	}
	for _, weight := range []int{0, -1, 2, impl.MaxWeight, impl.MaxWeight + 1, math.MaxInt, math.MinInt} {
		lists[fmt.Sprint("first weight ", weight)] = zset(entry(weight, 1, 2), entry(1, 2, 3))
		lists[fmt.Sprint("last weight ", weight)] = zset(entry(1, 1, 2), entry(weight, 2, 3))
	}
	for _, vertex := range []int{-1, impl.MaxVertex + 1, -impl.MaxValue, impl.MaxValue, impl.MaxValue + 1, math.MaxInt, math.MinInt} {
		lists[fmt.Sprint("from ", vertex)] = sumOf(zset(entry(1, 1, 2), entry(1, vertex, 0)))
		lists[fmt.Sprint("to ", vertex)] = sumOf(zset(entry(1, 1, vertex), entry(1, 2, 3)))
		lists[fmt.Sprint("alone from ", vertex)] = zset(entry(1, vertex, 0))
		lists[fmt.Sprint("alone to ", vertex)] = zset(entry(1, 0, vertex))
	}
	for name, z := range invalidZSets() {
		lists["not a Z-set: "+name] = z
	}
	return lists
}

func TestP61ValidEdges(t *testing.T) {
	if impl.MaxVertex != 19 {
		t.Errorf("MaxVertex = %d", impl.MaxVertex)
	}
	for _, edges := range someGraphs(100) {
		expectBool(t, fmt.Sprint("ValidEdges ", edges), impl.ValidEdges(edges), true)
	}
	expectBool(t, "ValidEdges of an empty list", impl.ValidEdges([]impl.Entry{}), true)
	for name, edges := range invalidEdges() {
		expectBool(t, "ValidEdges: "+name, impl.ValidEdges(edges), false)
	}
}

func TestP61InvalidEdges(t *testing.T) {
	for name, edges := range invalidEdges() {
		expectZSet(t, "Closure: "+name, impl.Closure(edges), nil)
		expectZSets(t, "ClosureRounds: "+name, impl.ClosureRounds(edges), nil)
		expectBool(t, "IsTransitive: "+name, impl.IsTransitive(edges), false)
		for source := range vertexCount {
			expectZSet(t, "Hops: "+name, impl.Hops(edges, source), nil)
		}
	}
}

func TestP61TheClosureIsTransitiveWithTheEdges(t *testing.T) {
	for _, edges := range someGraphs(1000) {
		what := fmt.Sprint("Closure ", edges)
		closed := impl.Closure(edges)
		expectZSet(t, what, closed, distancesOf(edges).all())
		expectZSet(t, "Closure of "+what, impl.Closure(closed), closed)
		expectBool(t, "IsTransitive of "+what, impl.IsTransitive(closed), true)
		expectBool(t, "the edges are in "+what, contains(closed, edges), true)
	}
}

func TestP61TheClosureIsTheSmallestTransitiveSet(t *testing.T) {
	const n, count = 3, 1 << 9
	var transitive []int
	for bits := range count {
		if isTransitiveSet(pairsOf(n, bits)) {
			transitive = append(transitive, bits)
		}
	}
	for bits := range count {
		smallest := count - 1
		for _, other := range transitive {
			if bits&^other == 0 {
				smallest &= other
			}
		}
		edges := pairsOf(n, bits)
		expectZSet(t, fmt.Sprint("Closure ", edges), impl.Closure(edges), pairsOf(n, smallest))
	}
}

func TestP61Closures(t *testing.T) {
	n := vertexCount
	cases := []struct {
		name        string
		edges, want []impl.Entry
	}{
		{"no edges", nil, nil},
		{"a loop", edgeList([2]int{7, 7}), edgeList([2]int{7, 7})},
		{"a cycle of two", cycleOf(0, 1), allPairs(2)},
		{"a line of three", lineOf(0, 2), edgeList([2]int{0, 1}, [2]int{0, 2}, [2]int{1, 2})},
		{"edges that do not meet", edgeList([2]int{0, 1}, [2]int{2, 1}), edgeList([2]int{0, 1}, [2]int{2, 1})},
		{"a cycle with an edge to it and one from it", sumOf(cycleOf(1, 2), edgeList([2]int{0, 1}, [2]int{2, 3})),
			edgeList([2]int{0, 1}, [2]int{0, 2}, [2]int{0, 3}, [2]int{1, 1}, [2]int{1, 2}, [2]int{1, 3}, [2]int{2, 1}, [2]int{2, 2}, [2]int{2, 3})},
		{"the longest cycle", cycleOf(0, impl.MaxVertex), allPairs(n)},
		{"all pairs", allPairs(n), allPairs(n)},
		{"all pairs without a loop", slices.Delete(allPairs(n), 0, 1), allPairs(n)},
	}
	for _, c := range cases {
		expectZSet(t, "Closure: "+c.name, impl.Closure(c.edges), c.want)
	}
}

func TestP62ATransitiveSetIsItsOwnClosure(t *testing.T) {
	check := func(edges []impl.Entry) bool {
		what := fmt.Sprint("IsTransitive ", edges)
		want := isTransitiveSet(edges)
		expectBool(t, what, impl.IsTransitive(edges), want)
		expectBool(t, what+" by Closure", sameZSet(impl.Closure(edges), edges), want)
		return want
	}
	count := 0
	for bits := range 1 << 9 {
		if check(pairsOf(3, bits)) {
			count++
		}
	}
	if count != 171 {
		t.Errorf("%d sets are transitive", count)
	}
	for _, edges := range someGraphs(300) {
		check(edges)
		closed := impl.Closure(edges)
		for i := range closed {
			check(slices.Delete(slices.Clone(closed), i, i+1))
		}
	}
}

func TestP63MoreEdgesGiveMorePairs(t *testing.T) {
	r := newRandom()
	for _, edges := range someGraphs(1000) {
		part := partOf(r, edges)
		expectBool(t, fmt.Sprintf("Closure %v contains Closure %v", edges, part), contains(impl.Closure(edges), impl.Closure(part)), true)
	}
}

func TestP64EveryPairIsFoundInTheRoundOfItsDistance(t *testing.T) {
	for _, edges := range someGraphs(1000) {
		what := fmt.Sprint("ClosureRounds ", edges)
		rounds := impl.ClosureRounds(edges)
		expectZSets(t, what, rounds, distancesOf(edges).rounds())
		expectZSet(t, "the sum of "+what, sumOf(rounds...), impl.Closure(edges))
		for i, round := range rounds {
			expectBool(t, what+" are edges", impl.ValidEdges(round) && len(round) > 0, true)
			if i == 0 {
				expectZSet(t, "the first of "+what, round, edges)
			}
		}
	}
}

func TestP64Rounds(t *testing.T) {
	rounds := impl.ClosureRounds(cycleOf(0, impl.MaxVertex))
	if len(rounds) != vertexCount {
		t.Fatalf("ClosureRounds of the longest cycle has %d rounds", len(rounds))
	}
	for i, round := range rounds {
		var want []impl.Entry
		for x := range vertexCount {
			want = append(want, entry(1, x, (x+i+1)%vertexCount))
		}
		expectZSet(t, fmt.Sprintf("round %d of the longest cycle", i), round, want)
	}
	expectZSets(t, "ClosureRounds without edges", impl.ClosureRounds(nil), nil)
	expectZSets(t, "ClosureRounds without edges", impl.ClosureRounds([]impl.Entry{}), nil)
	several := impl.ClosureRounds(namedGraphs()["several paths"])
	expectZSets(t, "ClosureRounds of several paths", several[1:], inputs(
		edgeList([2]int{0, 3}, [2]int{0, 5}, [2]int{1, 6}, [2]int{2, 6}, [2]int{4, 3}, [2]int{5, 6}),
		edgeList([2]int{0, 6}, [2]int{4, 6}),
	))
	loops := impl.ClosureRounds(namedGraphs()["a loop beside a cycle"])
	for n, round := range loops {
		for x := range 5 {
			want := x != 2 && n+1 == 5 || x == 2 && n+1 == 1
			expectBool(t, fmt.Sprintf("the distance of %d from itself is %d", x, n+1), hasPair(round, x, x), want)
		}
	}
}

func TestP65DistancesAreThoseOfTheRounds(t *testing.T) {
	for _, edges := range someGraphs(500) {
		rounds, table := impl.ClosureRounds(edges), distancesOf(edges)
		for source := range vertexCount {
			what := fmt.Sprintf("Hops(%v, %d)", edges, source)
			hops := impl.Hops(edges, source)
			expectZSet(t, what, hops, table.hops(source))
			var fromRounds []impl.Entry
			for i, round := range rounds {
				for _, e := range round {
					if e.Row[0] == source {
						fromRounds = append(fromRounds, entry(1, e.Row[1], i+1))
					}
				}
			}
			expectZSet(t, what, hops, sumOf(fromRounds))
			expectBool(t, "IsSet of "+what, impl.IsSet(hops), true)
		}
	}
}

func TestP65HopsAtTheirEdges(t *testing.T) {
	edges := edgeList([2]int{0, 1}, [2]int{1, 2}, [2]int{2, 0}, [2]int{2, 3})
	expectZSet(t, "Hops from a cycle", impl.Hops(edges, 0), zset(entry(1, 0, 3), entry(1, 1, 1), entry(1, 2, 2), entry(1, 3, 3)))
	expectZSet(t, "Hops from the end", impl.Hops(edges, 3), nil)
	expectZSet(t, "Hops from a vertex without edges", impl.Hops(edges, impl.MaxVertex), nil)
	expectZSet(t, "Hops without edges", impl.Hops(nil, 0), nil)
	expectZSet(t, "Hops from the last vertex", impl.Hops(edgeList([2]int{impl.MaxVertex, 4}), impl.MaxVertex), zset(entry(1, 4, 1)))
	expectZSet(t, "Hops from the first vertex", impl.Hops(edgeList([2]int{0, impl.MaxVertex}), 0), zset(entry(1, impl.MaxVertex, 1)))
	expectZSet(t, "the greatest distance", impl.Hops(cycleOf(0, impl.MaxVertex), 5)[5:6], zset(entry(1, 5, vertexCount)))
	for _, source := range []int{-1, impl.MaxVertex + 1, 32, 64, -64, math.MaxInt, math.MinInt} {
		expectZSet(t, fmt.Sprint("Hops from ", source), impl.Hops(allPairs(vertexCount), source), nil)
	}
}

func TestP66DistancesSatisfyTheTriangleInequality(t *testing.T) {
	for _, edges := range someGraphs(500) {
		for source := range vertexCount {
			distances := map[int]int{}
			for _, e := range impl.Hops(edges, source) {
				distances[e.Row[0]] = e.Row[1]
			}
			for _, e := range edges {
				from, isReached := distances[e.Row[0]]
				to := distances[e.Row[1]]
				if isReached && (to < 1 || to > from+1) {
					t.Errorf("Hops(%v, %d): the distance of %d is %d, that of %d is %d", edges, source, e.Row[0], from, e.Row[1], to)
				}
			}
		}
	}
}

func TestClosureFunctionsReturnNewMemory(t *testing.T) {
	for name, edges := range namedGraphs() {
		if len(edges) > 0 {
			expectFresh(t, "Closure: "+name, impl.Closure, edges)
			expectFresh(t, "ClosureRounds: "+name, impl.ClosureRounds, edges)
			expectFresh(t, "Hops: "+name, impl.Hops, edges, edges[0].Row[0])
		}
	}
}
