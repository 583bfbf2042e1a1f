package tests

import (
	"fmt"
	"math"
	"math/rand/v2"
	"slices"
	"testing"

	"loop.example/dataflow/impl"
)

// smallestPaths is the reference for CertifyPath: it has, for each vertex that is reached from x, the smallest of the
// shortest paths. It lengthens paths by one edge at a time, and keeps only the smallest path to each vertex.
func smallestPaths(edges []impl.Entry, x int) map[int][]int {
	found := map[int][]int{}
	last := [][]int{{x}}
	for len(last) > 0 {
		next := map[int][]int{}
		for _, path := range last {
			for y := range vertexCount {
				if _, isKnown := found[y]; isKnown || !hasPair(edges, path[len(path)-1], y) {
					continue
				}
				longer := append(slices.Clone(path), y)
				if old, isThere := next[y]; !isThere || slices.Compare(longer, old) < 0 {
					next[y] = longer
				}
			}
		}
		last = nil
		for y, path := range next {
			found[y] = path
			last = append(last, path)
		}
	}
	return found
}

// isPathByDefinition is the reference for CheckPath, for valid edges.
func isPathByDefinition(edges []impl.Entry, x int, y int, path []int) bool {
	n := len(path)
	if n < 2 || n > 60 || path[0] != x || path[n-1] != y {
		return false
	}
	for i := 1; i < n; i++ {
		if !hasPair(edges, path[i-1], path[i]) {
			return false
		}
	}
	return true
}

// rows returns the set of the pairs with their distances.
func (d distanceTable) rows() []impl.Entry {
	var rows []impl.Entry
	for _, e := range d.all() {
		rows = append(rows, entry(1, e.Row[0], e.Row[1], d[e.Row[0]][e.Row[1]]))
	}
	return rows
}

// isCertificateByDefinition is the reference for CheckClosure, for valid edges and a set of rows of the width 3.
func isCertificateByDefinition(edges []impl.Entry, rows []impl.Entry) bool {
	has := func(x int, y int, test func(n int) bool) bool {
		return slices.ContainsFunc(rows, func(e impl.Entry) bool { return e.Row[0] == x && e.Row[1] == y && test(e.Row[2]) })
	}
	for _, e := range edges {
		if !has(e.Row[0], e.Row[1], func(n int) bool { return n == 1 }) {
			return false
		}
	}
	for i, e := range rows {
		x, y, n := e.Row[0], e.Row[1], e.Row[2]
		if !isIndex(x, vertexCount) || !isIndex(y, vertexCount) || n < 1 || i > 0 && slices.Equal(rows[i-1].Row[:2], e.Row[:2]) {
			return false
		}
		isBehind := hasPair(edges, x, y) && n == 1
		for _, edge := range edges {
			from, to := edge.Row[0], edge.Row[1]
			isBehind = isBehind || n > 1 && to == y && has(x, from, func(m int) bool { return m == n-1 })
			if from == y && !has(x, to, func(m int) bool { return m <= n+1 }) {
				return false
			}
		}
		if !isBehind {
			return false
		}
	}
	return true
}

func expectPath(t *testing.T, edges []impl.Entry, x int, y int, want []int) {
	t.Helper()
	path, ok := impl.CertifyPath(edges, x, y)
	if ok != (len(want) > 0) || !slices.Equal(path, want) {
		t.Errorf("CertifyPath(%v, %d, %d) = %v, %v, want %v", edges, x, y, path, ok, want)
	}
}

func expectCheckedPath(t *testing.T, edges []impl.Entry, x int, y int, path []int, want bool) {
	t.Helper()
	expectBool(t, fmt.Sprintf("CheckPath(%v, %d, %d, %v)", edges, x, y, path), impl.CheckPath(edges, x, y, path), want)
}

func expectCheckedClosure(t *testing.T, what string, edges []impl.Entry, rows []impl.Entry, want bool) {
	t.Helper()
	expectBool(t, fmt.Sprintf("%s: CheckClosure(%v, %v)", what, edges, rows), impl.CheckClosure(edges, rows), want)
}

// graphsForPaths has all graphs with three vertices and some larger ones.
func graphsForPaths() [][]impl.Entry {
	graphs := someGraphs(100)
	for bits := range 1 << 9 {
		graphs = append(graphs, pairsOf(3, bits))
	}
	return graphs
}

func TestP125CertifiedPathsAreShortestPaths(t *testing.T) {
	longest := 0
	for _, edges := range graphsForPaths() {
		table := distancesOf(edges)
		distances := impl.CertifyClosure(edges)
		closed := impl.Closure(edges)
		for x := range vertexCount {
			paths := smallestPaths(edges, x)
			for y := range vertexCount {
				want := paths[y]
				expectPath(t, edges, x, y, want)
				path, ok := impl.CertifyPath(edges, x, y)
				if ok != hasPair(closed, x, y) {
					t.Errorf("CertifyPath(%v, %d, %d) = %v, %v", edges, x, y, path, ok)
				}
				if !ok {
					continue
				}
				expectCheckedPath(t, edges, x, y, path, true)
				if n := len(path) - 1; n != table[x][y] || impl.WeightOf(distances, []int{x, y, n}) != 1 {
					t.Errorf("CertifyPath(%v, %d, %d) has %d edges, not %d", edges, x, y, n, table[x][y])
				}
				longest = max(longest, len(path))
			}
		}
	}
	if longest != vertexCount+1 {
		t.Errorf("the longest path has %d vertices", longest)
	}
}

func TestP125GivenPaths(t *testing.T) {
	diamond := edgeList([2]int{0, 1}, [2]int{0, 2}, [2]int{1, 3}, [2]int{2, 3})
	// The path over 1 begins with a smaller vertex, but is longer.
	detour := edgeList([2]int{0, 1}, [2]int{1, 2}, [2]int{2, 9}, [2]int{0, 5}, [2]int{5, 9})
	// The smallest second vertex leads to a larger third one, and still comes first.
	layers := edgeList([2]int{0, 1}, [2]int{0, 2}, [2]int{1, 7}, [2]int{2, 3}, [2]int{3, 8}, [2]int{7, 8})
	loops := edgeList([2]int{4, 4}, [2]int{4, 5}, [2]int{5, 4}, [2]int{5, 6})
	cases := []struct {
		edges []impl.Entry
		x, y  int
		want  []int
	}{
		{diamond, 0, 3, []int{0, 1, 3}},
		{diamond, 0, 2, []int{0, 2}},
		{diamond, 3, 0, nil},
		{diamond, 0, 0, nil},
		{diamond, 1, 2, nil},
		{diamond, 7, 7, nil},
		{detour, 0, 9, []int{0, 5, 9}},
		{layers, 0, 8, []int{0, 1, 7, 8}},
		{loops, 4, 4, []int{4, 4}},
		{loops, 5, 5, []int{5, 4, 5}},
		{loops, 4, 6, []int{4, 5, 6}},
		{loops, 6, 6, nil},
		{cycleOf(0, impl.MaxVertex), 0, 0, append(upward(vertexCount), 0)},
		{cycleOf(0, impl.MaxVertex), 1, 0, append(upward(vertexCount)[1:], 0)},
		{lineOf(0, impl.MaxVertex), 0, impl.MaxVertex, upward(vertexCount)},
		{allPairs(vertexCount), impl.MaxVertex, impl.MaxVertex, []int{impl.MaxVertex, impl.MaxVertex}},
		{slices.Delete(allPairs(vertexCount), 0, 1), 0, 0, []int{0, 1, 0}},
		{nil, 0, 0, nil},
		{nil, 0, 1, nil},
	}
	for _, c := range cases {
		expectPath(t, c.edges, c.x, c.y, c.want)
	}
}

func TestP125PathsOfInvalidEdgesAndVertices(t *testing.T) {
	for name, edges := range invalidEdges() {
		for _, pair := range [][2]int{{1, 2}, {2, 3}, {1, 3}, {0, 0}, {0, 5}} {
			path, ok := impl.CertifyPath(edges, pair[0], pair[1])
			if ok || path != nil {
				t.Errorf("CertifyPath: %s = %v, %v", name, path, ok)
			}
			expectBool(t, "CheckPath: "+name, impl.CheckPath(edges, pair[0], pair[1], pair[:]), false)
		}
		expectBool(t, "CheckPath: "+name, impl.CheckPath(edges, 1, 3, []int{1, 2, 3}), false)
	}
	full := allPairs(vertexCount)
	for _, vertex := range append(extremeNumbers(impl.MaxVertex), 32, 64, -64, 20*256) {
		for _, other := range []int{0, impl.MaxVertex, vertex} {
			expectPath(t, full, vertex, other, nil)
			expectPath(t, full, other, vertex, nil)
			expectCheckedPath(t, full, vertex, other, []int{vertex, other}, false)
			expectCheckedPath(t, full, other, vertex, []int{other, vertex}, false)
		}
		expectCheckedPath(t, full, 1, 2, []int{1, vertex, 2}, false)
	}
}

func TestP126APathProvesAPairOfTheClosure(t *testing.T) {
	r := newRandom()
	counts := map[bool]int{}
	for _, edges := range someGraphs(400) {
		table := distancesOf(edges)
		for range 20 {
			path := randomWalk(r, edges)
			if r.IntN(3) == 0 && len(path) > 0 {
				path[r.IntN(len(path))] = r.IntN(vertexCount)
			}
			x, y := r.IntN(vertexCount), r.IntN(vertexCount)
			if len(path) > 0 && r.IntN(4) > 0 {
				x, y = path[0], path[len(path)-1]
			}
			want := isPathByDefinition(edges, x, y, path)
			expectCheckedPath(t, edges, x, y, path, want)
			counts[want]++
			if !want {
				continue
			}
			if !hasPair(impl.Closure(edges), x, y) || table[x][y] > len(path)-1 {
				t.Errorf("CheckPath(%v, %d, %d, %v), but the distance is %d", edges, x, y, path, table[x][y])
			}
			for i := range path {
				for j := i + 2; j <= len(path); j++ {
					expectCheckedPath(t, edges, path[i], path[j-1], path[i:j], true)
				}
			}
		}
	}
	if counts[true] < 1000 || counts[false] < 1000 {
		t.Errorf("paths: %v", counts)
	}
}

// randomWalk returns a path with up to 70 vertices, or less than two vertices if there are no edges from the first.
func randomWalk(r *rand.Rand, edges []impl.Entry) []int {
	if len(edges) == 0 {
		return nil
	}
	path := []int{randomOf(r, edges).Row[0]}
	for range randomOf(r, []int{2, 5, 70}) {
		var next []int
		for _, e := range edges {
			if e.Row[0] == path[len(path)-1] {
				next = append(next, e.Row[1])
			}
		}
		if len(next) == 0 {
			break
		}
		path = append(path, randomOf(r, next))
	}
	return path
}

func TestP126GivenPaths(t *testing.T) {
	edges := sumOf(cycleOf(0, 3), edgeList([2]int{2, 5}, [2]int{5, 5}))
	cases := []struct {
		name string
		x, y int
		path []int
		want bool
	}{
		{"an edge", 0, 1, []int{0, 1}, true},
		{"a detour", 0, 1, []int{0, 1, 2, 3, 0, 1}, true},
		{"a cycle", 2, 2, []int{2, 3, 0, 1, 2}, true},
		{"a loop", 5, 5, []int{5, 5}, true},
		{"a loop several times", 2, 5, []int{2, 5, 5, 5, 5}, true},
		{"an edge that is not there", 0, 2, []int{0, 2}, false},
		{"an edge backwards", 1, 0, []int{1, 0}, false},
		{"a loop that is not there", 0, 0, []int{0, 0}, false},
		{"the first edge is not there", 1, 2, []int{1, 0, 1, 2}, false},
		{"an edge in the middle is not there", 0, 3, []int{0, 1, 3, 0, 1, 2, 3}, false},
		{"the last edge is not there", 0, 3, []int{0, 1, 2, 5, 3}, false},
		{"no vertices", 0, 1, nil, false},
		{"no vertices", 0, 0, []int{}, false},
		{"one vertex", 0, 0, []int{0}, false},
		{"one vertex with a loop", 5, 5, []int{5}, false},
		{"another beginning", 1, 2, []int{0, 1, 2}, false},
		{"another end", 0, 1, []int{0, 1, 2}, false},
		{"the ends exchanged", 2, 0, []int{0, 1, 2}, false},
		{"the end comes earlier", 0, 2, []int{0, 1, 2, 3}, false},
		{"the beginning comes later", 1, 3, []int{0, 1, 2, 3}, false},
	}
	for _, c := range cases {
		expectBool(t, "CheckPath: "+c.name, impl.CheckPath(edges, c.x, c.y, c.path), c.want)
	}
	expectBool(t, "CheckPath without edges", impl.CheckPath(nil, 0, 1, []int{0, 1}), false)
}

func TestP126LimitOfPaths(t *testing.T) {
	if impl.MaxPath != 60 {
		t.Errorf("MaxPath = %d", impl.MaxPath)
	}
	loop := edgeList([2]int{7, 7})
	for n := range 70 {
		expectBool(t, fmt.Sprintf("CheckPath of %d vertices", n), impl.CheckPath(loop, 7, 7, repeated(n, 7)), n >= 2 && n <= 60)
	}
	cycle := cycleOf(0, impl.MaxVertex)
	around := slices.Repeat(upward(vertexCount), 4)
	for n := 2; n <= len(around); n++ {
		expectBool(t, fmt.Sprintf("CheckPath of %d vertices around", n), impl.CheckPath(cycle, 0, around[n-1], around[:n]), n <= 60)
	}
	expectBool(t, "CheckPath of very many vertices", impl.CheckPath(loop, 7, 7, repeated(100000, 7)), false)
}

func TestP127TheCertificateOfTheClosureIsAccepted(t *testing.T) {
	for _, edges := range someGraphs(1000) {
		rows := impl.CertifyClosure(edges)
		expectZSet(t, fmt.Sprint("CertifyClosure ", edges), rows, distancesOf(edges).rows())
		expectCheckedClosure(t, "its own", edges, rows, true)
		var pairs []impl.Entry
		for _, e := range rows {
			pairs = append(pairs, entry(e.Weight, e.Row[:2]...))
		}
		expectZSet(t, "the pairs of CertifyClosure", pairs, impl.Closure(edges))
	}
}

func TestP127GivenCertificates(t *testing.T) {
	edges := edgeList([2]int{0, 1}, [2]int{1, 2}, [2]int{2, 0}, [2]int{2, 3}, [2]int{5, 5})
	want := zset(
		entry(1, 0, 0, 3), entry(1, 0, 1, 1), entry(1, 0, 2, 2), entry(1, 0, 3, 3),
		entry(1, 1, 0, 2), entry(1, 1, 1, 3), entry(1, 1, 2, 1), entry(1, 1, 3, 2),
		entry(1, 2, 0, 1), entry(1, 2, 1, 2), entry(1, 2, 2, 3), entry(1, 2, 3, 1),
		entry(1, 5, 5, 1),
	)
	expectZSet(t, "CertifyClosure", impl.CertifyClosure(edges), want)
	expectCheckedClosure(t, "given", edges, want, true)
	expectZSet(t, "CertifyClosure without edges", impl.CertifyClosure(nil), nil)
	expectCheckedClosure(t, "no edges", nil, nil, true)
	expectCheckedClosure(t, "no edges", []impl.Entry{}, []impl.Entry{}, true)
	all := allPairs(vertexCount)
	rows := impl.CertifyClosure(all)
	if len(rows) != impl.MaxEntries {
		t.Errorf("CertifyClosure of all pairs has %d rows", len(rows))
	}
	expectCheckedClosure(t, "all pairs", all, rows, true)
	cycle := cycleOf(0, impl.MaxVertex)
	rows = impl.CertifyClosure(cycle)
	if len(rows) != impl.MaxEntries || rows[0].Row[2] != vertexCount {
		t.Errorf("CertifyClosure of the longest cycle has %d rows", len(rows))
	}
	expectCheckedClosure(t, "the longest cycle", cycle, rows, true)
	for name, edges := range invalidEdges() {
		expectZSet(t, "CertifyClosure: "+name, impl.CertifyClosure(edges), nil)
		expectBool(t, "CheckClosure of nothing: "+name, impl.CheckClosure(edges, nil), false)
		expectBool(t, "CheckClosure: "+name, impl.CheckClosure(edges, zset(entry(1, 1, 2, 1), entry(1, 1, 3, 2), entry(1, 2, 3, 1))), false)
	}
}

// Each assignment of at most one number to the pairs of two vertices is checked for each graph with these vertices.
func TestP128OnlyTheDistancesCertifyTheClosureOfTwoVertices(t *testing.T) {
	for bits := range 1 << 4 {
		edges := pairsOf(2, bits)
		accepted := 0
		for code := range 5 * 5 * 5 * 5 {
			var rows []impl.Entry
			for i, rest := 0, code; i < 4; i, rest = i+1, rest/5 {
				if n := rest % 5; n > 0 {
					rows = append(rows, entry(1, i/2, i%2, n))
				}
			}
			want := sameZSet(rows, distancesOf(edges).rows())
			expectCheckedClosure(t, "two vertices", edges, rows, want)
			expectBool(t, "the reference", isCertificateByDefinition(edges, rows), want)
			if want {
				accepted++
			}
		}
		if accepted != 1 {
			t.Errorf("%d sets are accepted for %v", accepted, edges)
		}
	}
}

// alteredRows returns each set of rows that differs from a certificate in one row: a pair has no row, or another one.
func alteredRows(rows []impl.Entry, vertices int) [][]impl.Entry {
	var list [][]impl.Entry
	for _, pair := range allPairs(vertices) {
		others := slices.DeleteFunc(slices.Clone(rows), func(e impl.Entry) bool { return slices.Equal(e.Row[:2], pair.Row) })
		list = append(list, others)
		for n := 1; n <= vertices+2; n++ {
			list = append(list, sumOf(others, zset(entry(1, pair.Row[0], pair.Row[1], n))))
		}
	}
	return list
}

func TestP128OneRowIsDifferent(t *testing.T) {
	graphs := [][]impl.Entry{cycleOf(0, 4), lineOf(0, 4), cycleOf(2, 4), nil, edgeList([2]int{0, 1}, [2]int{1, 1}, [2]int{1, 2}), allPairs(4)}
	for bits := range 1 << 9 {
		graphs = append(graphs, pairsOf(3, bits))
	}
	for _, edges := range graphs {
		want := distancesOf(edges).rows()
		for _, rows := range alteredRows(want, 5) {
			expectCheckedClosure(t, "one row", edges, rows, sameZSet(rows, want))
		}
	}
}

func TestP128SeveralRowsAreDifferent(t *testing.T) {
	r := newRandom()
	rejected := 0
	for _, edges := range someGraphs(300) {
		want := distancesOf(edges).rows()
		for range 30 {
			table := distancesOf(edges)
			for range between(r, 1, 6) {
				x, y := r.IntN(vertexCount), r.IntN(vertexCount)
				table[x][y] = max(0, table[x][y]+between(r, -2, 2))
			}
			rows := table.rows()
			isSame := sameZSet(rows, want)
			expectCheckedClosure(t, "several rows", edges, rows, isSame)
			expectBool(t, "the reference", isCertificateByDefinition(edges, rows), isSame)
			if !isSame {
				rejected++
			}
		}
	}
	if rejected < 5000 {
		t.Errorf("only %d sets are rejected", rejected)
	}
}

func TestP128CertificatesOfOtherEdges(t *testing.T) {
	for _, edges := range someGraphs(300) {
		rows := distancesOf(edges).rows()
		for i := range edges {
			fewer := slices.Delete(slices.Clone(edges), i, i+1)
			expectCheckedClosure(t, "an edge less", fewer, rows, false)
			expectCheckedClosure(t, "an edge more", edges, distancesOf(fewer).rows(), false)
		}
	}
}

func TestP128SuperfluousRows(t *testing.T) {
	line := lineOf(0, 2)
	rows := distancesOf(line).rows()
	expectCheckedClosure(t, "none", line, rows, true)
	cases := []struct {
		name string
		more []impl.Entry
	}{
		{"an edge that is not there", zset(entry(1, 5, 6, 1))},
		{"an edge backwards", zset(entry(1, 1, 0, 1))},
		{"a pair without a path", zset(entry(1, 5, 6, 2))},
		{"a pair from the end", zset(entry(1, 2, 5, 2))},
		{"a pair to the beginning", zset(entry(1, 5, 0, 2))},
		{"a pair with a path backwards", zset(entry(1, 2, 0, 2))},
		{"a vertex with itself", zset(entry(1, 1, 1, 2))},
		{"a vertex with itself, with the distance 1", zset(entry(1, 1, 1, 1))},
		{"pairs that follow from each other", zset(entry(1, 5, 0, 7), entry(1, 5, 1, 8), entry(1, 5, 2, 9))},
		{"pairs that follow from no edge", zset(entry(1, 5, 0, 1), entry(1, 5, 1, 2), entry(1, 5, 2, 3))},
		{"the same pair with a greater distance", zset(entry(1, 0, 1, 2))},
		{"the same pair with a smaller distance", zset(entry(1, 0, 2, 1))},
		{"the same pair with the greatest distance", zset(entry(1, 0, 2, impl.MaxValue))},
	}
	for _, c := range cases {
		expectCheckedClosure(t, c.name, line, sumOf(rows, c.more), false)
	}
	// A walk around a cycle gives each longer distance a row before it, but each pair can have one row only.
	cycle := cycleOf(0, 1)
	around := distancesOf(cycle).rows()
	expectCheckedClosure(t, "a longer way around", cycle, sumOf(around, zset(entry(1, 0, 0, 4))), false)
	expectCheckedClosure(t, "all longer ways around", cycle, sumOf(around, zset(entry(1, 0, 0, 4), entry(1, 0, 1, 3), entry(1, 1, 0, 3), entry(1, 1, 1, 4))), false)
	loop := edgeList([2]int{3, 3})
	expectCheckedClosure(t, "a loop twice", loop, zset(entry(1, 3, 3, 1), entry(1, 3, 3, 2)), false)
	expectCheckedClosure(t, "a loop with another distance", loop, zset(entry(1, 3, 3, 2)), false)
	expectCheckedClosure(t, "rows without edges", nil, zset(entry(1, 0, 1, 1)), false)
	expectCheckedClosure(t, "rows without edges", nil, zset(entry(1, 0, 1, 2)), false)
}

func TestP128WhatIsNotASetOfDistances(t *testing.T) {
	line := lineOf(0, 2)
	rows := distancesOf(line).rows()
	bad := map[string][]impl.Entry{
		"rows of two":   line,
		"rows of four":  zset(entry(1, 0, 1, 1, 1), entry(1, 0, 2, 2, 1), entry(1, 1, 2, 1, 1)),
		"widths differ": append(slices.Clone(rows), entry(1, 1, 2, 1, 1)),
		"rows descend":  zset(rows[1], rows[0], rows[2]),
		"a row twice":   zset(rows[0], rows[0], rows[1], rows[2]),
	}
	for i := range rows {
		for _, weight := range []int{0, -1, 2, impl.MaxWeight, impl.MaxWeight + 1, math.MaxInt, math.MinInt} {
			changed := slices.Clone(rows)
			changed[i].Weight = weight
			bad[fmt.Sprintf("row %d with the weight %d", i, weight)] = changed
		}
		for _, n := range []int{0, -1, -impl.MaxValue, impl.MaxValue, impl.MaxValue + 1, math.MaxInt, math.MinInt} {
			changed := slices.Clone(rows)
			changed[i].Row = []int{rows[i].Row[0], rows[i].Row[1], n}
			bad[fmt.Sprintf("row %d with the distance %d", i, n)] = changed
		}
	}
	for _, vertex := range append(extremeNumbers(impl.MaxVertex), impl.MaxValue, -impl.MaxValue, 32, 64) {
		for _, n := range []int{1, 2} {
			bad[fmt.Sprint("also from ", vertex, " at ", n)] = sumOf(rows, zset(entry(1, vertex, 0, n)))
			bad[fmt.Sprint("also to ", vertex, " at ", n)] = sumOf(rows, zset(entry(1, 2, vertex, n)))
		}
	}
	for name, d := range bad {
		expectCheckedClosure(t, name, line, d, false)
	}
	for name, z := range invalidZSets() {
		expectBool(t, "CheckClosure: "+name, impl.CheckClosure(line, z), false)
		expectBool(t, "CheckClosure without edges: "+name, impl.CheckClosure(nil, z), false)
	}
	tooMany := append(impl.CertifyClosure(allPairs(vertexCount)), entry(1, vertexCount, 0, 1))
	expectBool(t, "CheckClosure of too many rows", impl.CheckClosure(allPairs(vertexCount), tooMany), false)
}

func TestCertificateFunctionsReturnNewMemory(t *testing.T) {
	for name, edges := range namedGraphs() {
		if len(edges) == 0 {
			continue
		}
		x, y := edges[0].Row[0], edges[0].Row[1]
		expectFresh(t, "CertifyPath: "+name, impl.CertifyPath, edges, x, y)
		expectFresh(t, "CertifyClosure: "+name, impl.CertifyClosure, edges)
		expectUnchanged(t, "CheckPath: "+name, impl.CheckPath, edges, x, y, []int{x, y})
		expectUnchanged(t, "CheckClosure: "+name, impl.CheckClosure, edges, impl.CertifyClosure(edges))
	}
}
