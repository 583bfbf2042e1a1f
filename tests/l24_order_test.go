package tests

import (
	"fmt"
	"math"
	"math/rand/v2"
	"slices"
	"testing"

	"loop.example/dataflow/impl"
)

// ordersOf returns all orders of n indices in lexicographic order.
func ordersOf(n int) [][]int {
	orders := [][]int{{}}
	for range n {
		var longer [][]int
		for _, order := range orders {
			for i := range n {
				if !slices.Contains(order, i) {
					longer = append(longer, append(slices.Clone(order), i))
				}
			}
		}
		orders = longer
	}
	return orders
}

// joinedInOrder is the reference for the first Z-set and the joins with the others, of which one that is not a Z-set
// counts as empty. It reports whether there is none.
func joinedInOrder(zs [][]impl.Entry, order []int, k int) (results [][]impl.Entry, areZSets bool) {
	areZSets = true
	for i, index := range order {
		z := zs[index]
		if i > 0 {
			z = joined(results[i-1], z, k)
		}
		if !impl.ValidZSet(z) {
			z, areZSets = nil, false
		}
		results = append(results, z)
	}
	return results, areZSets
}

func sizesOf(list [][]impl.Entry) []int {
	var sizes []int
	for _, z := range list {
		sizes = append(sizes, len(z))
	}
	return sizes
}

func costOf(sizes []int) int {
	cost := 0
	for _, size := range sizes {
		cost += size
	}
	return cost
}

// cheapestOrder is the reference for BestJoinOrder.
func cheapestOrder(zs [][]impl.Entry, k int) (best []int, least int, ties int) {
	for _, order := range ordersOf(len(zs)) {
		results, _ := joinedInOrder(zs, order, k)
		cost := costOf(sizesOf(results))
		switch {
		case best == nil || cost < least:
			best, least, ties = order, cost, 0
		case cost == least:
			ties++
		}
	}
	return best, least, ties
}

// orderCase has Z-sets that can be joined on k columns.
type orderCase struct {
	zs [][]impl.Entry
	k  int
}

// randomKeyed returns a small Z-set that is not empty, in which keys of the width k occur several times.
func randomKeyed(r *rand.Rand, width int, k int) []impl.Entry {
	for {
		var entries []impl.Entry
		for range between(r, 1, 7) {
			row := randomList(r, width, 9)
			for i := range k {
				row[i] = r.IntN(2)
			}
			entries = append(entries, entry(randomOf(r, []int{-1, 1, 1, 2, 3}), row...))
		}
		if z := sumOf(entries); len(z) > 0 {
			return z
		}
	}
}

func randomOrderCase(r *rand.Rand) orderCase {
	c := orderCase{k: between(r, 0, 3)}
	left := impl.MaxWidth - c.k
	for range between(r, 1, impl.MaxRelations) {
		more := between(r, 0, left)
		if c.k == 0 && more == 0 {
			break
		}
		if r.IntN(2) == 0 {
			more = min(more, 1)
		}
		left -= more
		c.zs = append(c.zs, randomKeyed(r, c.k+more, c.k))
	}
	if len(c.zs) == 0 {
		return randomOrderCase(r)
	}
	return c
}

func expectJoined(t *testing.T, what string, zs [][]impl.Entry, order []int, k int, want [][]impl.Entry) {
	t.Helper()
	call := fmt.Sprintf("(%v, %v, %d)", zs, order, k)
	var last []impl.Entry
	if len(want) > 0 {
		last = want[len(want)-1]
	}
	expectZSet(t, what+": JoinAll"+call, impl.JoinAll(zs, order, k), last)
	expectInts(t, what+": JoinSizes"+call, impl.JoinSizes(zs, order, k), sizesOf(want))
}

func expectBest(t *testing.T, what string, zs [][]impl.Entry, k int, want []int, cost int) {
	t.Helper()
	if order, least := impl.BestJoinOrder(zs, k); least != cost || !slices.Equal(order, want) {
		t.Errorf("%s: BestJoinOrder(%v, %d) = %v, %d, want %v, %d", what, zs, k, order, least, want, cost)
	}
}

func TestP122EveryJoinOrderGivesTheSameRowsUpToTheOrderOfColumns(t *testing.T) {
	r := newRandom()
	several := 0
	for range 1500 {
		c := randomOrderCase(r)
		upwards := upward(len(c.zs))
		for _, order := range ordersOf(len(c.zs)) {
			results, areZSets := joinedInOrder(c.zs, order, c.k)
			expectJoined(t, "random", c.zs, order, c.k, results)
			if !areZSets {
				continue
			}
			got, inOrder := impl.JoinAll(c.zs, order, c.k), impl.JoinAll(c.zs, upwards, c.k)
			if len(got) != len(inOrder) || impl.TotalWeight(got) != impl.TotalWeight(inOrder) {
				t.Errorf("JoinAll(%v, %v, %d) = %v, in the order of the indices %v", c.zs, order, c.k, got, inOrder)
			}
			if len(order) > 2 && len(got) > 2 {
				several++
			}
		}
	}
	if several < 1000 {
		t.Errorf("only %d joins of several Z-sets have entries", several)
	}
}

func TestP122GivenOrders(t *testing.T) {
	zs := inputs(
		zset(entry(2, 1, 5), entry(1, 2, 6)),
		zset(entry(3, 1), entry(-1, 2)),
		zset(entry(1, 1, 7, 8), entry(1, 1, 8, 8), entry(1, 3, 0, 0)),
	)
	first := zset(entry(6, 1, 5, 7, 8), entry(6, 1, 5, 8, 8))
	last := zset(entry(6, 1, 7, 8, 5), entry(6, 1, 8, 8, 5))
	cases := []struct {
		order, sizes []int
		want         []impl.Entry
	}{
		{[]int{0, 1, 2}, []int{2, 2, 2}, first},
		{[]int{0, 2, 1}, []int{2, 2, 2}, first},
		{[]int{1, 0, 2}, []int{2, 2, 2}, first},
		{[]int{1, 2, 0}, []int{2, 2, 2}, last},
		{[]int{2, 0, 1}, []int{3, 2, 2}, last},
		{[]int{2, 1, 0}, []int{3, 2, 2}, last},
	}
	for _, c := range cases {
		expectZSet(t, fmt.Sprint("JoinAll in the order ", c.order), impl.JoinAll(zs, c.order, 1), c.want)
		expectInts(t, fmt.Sprint("JoinSizes in the order ", c.order), impl.JoinSizes(zs, c.order, 1), c.sizes)
	}
	expectBest(t, "given", zs, 1, []int{0, 1, 2}, 6)
	expectJoined(t, "one Z-set", zs[:1], []int{0}, 1, zs[:1])
	expectBest(t, "one Z-set", zs[:1], 1, []int{0}, 2)
	expectJoined(t, "no columns", zs[:2], []int{1, 0}, 0, inputs(zs[1], zset(entry(6, 1, 1, 5), entry(3, 1, 2, 6), entry(-2, 2, 1, 5), entry(-1, 2, 2, 6))))
	same := inputs(zs[1], zs[1], zs[1], zs[1])
	expectJoined(t, "four times the same", same, []int{3, 1, 0, 2}, 1, inputs(zs[1], zset(entry(9, 1), entry(1, 2)), zset(entry(27, 1), entry(-1, 2)), zset(entry(81, 1), entry(1, 2))))
}

func TestP123SizesAreThoseOfThePartialJoins(t *testing.T) {
	r := newRandom()
	for range 1000 {
		c := randomOrderCase(r)
		order := r.Perm(len(c.zs))
		what := fmt.Sprintf("JoinSizes(%v, %v, %d)", c.zs, order, c.k)
		sizes := impl.JoinSizes(c.zs, order, c.k)
		results, _ := joinedInOrder(c.zs, order, c.k)
		expectInts(t, what, sizes, sizesOf(results))
		if sizes[0] != len(c.zs[order[0]]) || sizes[len(sizes)-1] != len(impl.JoinAll(c.zs, order, c.k)) {
			t.Errorf("%s = %v", what, sizes)
		}
	}
}

func TestP123JoinsThatAreNotZSets(t *testing.T) {
	big := impl.MaxWeight
	twenty := numbered(1, 20, 1)
	cases := []struct {
		name  string
		zs    [][]impl.Entry
		k     int
		sizes []int
	}{
		{"the most entries", inputs(twenty, twenty, numbered(1, 1, 1)), 0, []int{20, 400, 400}},
		{"too many entries", inputs(twenty, numbered(0, 20, 1), numbered(1, 1, 1)), 0, []int{20, 0, 0}},
		{"too many entries in the end", inputs(twenty, twenty, numbered(1, 2, 1)), 0, []int{20, 400, 0}},
		{"the largest weight", inputs(numbered(1, 3, big), numbered(1, 2, -1), numbered(1, 1, 1)), 1, []int{3, 2, 1}},
		{"a weight too large", inputs(numbered(1, 3, big), numbered(1, 2, 2), numbered(1, 1, 1)), 1, []int{3, 0, 0}},
		{"no row with the same key", inputs(numbered(1, 3, 1), numbered(4, 9, 1), numbered(1, 9, 1)), 1, []int{3, 0, 0}},
	}
	for _, c := range cases {
		order := upward(len(c.zs))
		results, _ := joinedInOrder(c.zs, order, c.k)
		expectInts(t, "the reference: "+c.name, sizesOf(results), c.sizes)
		expectJoined(t, c.name, c.zs, order, c.k, results)
		best, cost, _ := cheapestOrder(c.zs, c.k)
		expectBest(t, c.name, c.zs, c.k, best, cost)
	}
	// A join that counts as empty has the size 0, so that an order with such a join is cheap.
	expectBest(t, "too many entries", inputs(twenty, numbered(0, 20, 1), numbered(1, 1, 1)), 0, []int{0, 1, 2}, 20)
}

func TestP124NoOrderIsCheaper(t *testing.T) {
	r := newRandom()
	ties, others := 0, 0
	for range 1500 {
		c := randomOrderCase(r)
		want, cost, equals := cheapestOrder(c.zs, c.k)
		expectBest(t, "random", c.zs, c.k, want, cost)
		order, least := impl.BestJoinOrder(c.zs, c.k)
		if costOf(impl.JoinSizes(c.zs, order, c.k)) != least {
			t.Errorf("BestJoinOrder(%v, %d) = %v, %d", c.zs, c.k, order, least)
		}
		for _, other := range ordersOf(len(c.zs)) {
			if costOf(impl.JoinSizes(c.zs, other, c.k)) < least {
				t.Errorf("BestJoinOrder(%v, %d) = %v, %d, but %v is cheaper", c.zs, c.k, order, least, other)
			}
		}
		if equals > 0 && len(c.zs) > 2 {
			ties++
		}
		if !slices.IsSorted(order) {
			others++
		}
	}
	if ties < 200 || others < 200 {
		t.Errorf("%d ties, %d orders that do not ascend", ties, others)
	}
}

func TestP124TiesBetweenOrders(t *testing.T) {
	few, more, most := numbered(1, 2, 1), numbered(1, 4, 1), numbered(1, 6, 1)
	cases := []struct {
		name string
		zs   [][]impl.Entry
		want []int
		cost int
	}{
		{"two equal ones", inputs(few, few), []int{0, 1}, 4},
		{"three equal ones", inputs(few, few, few), []int{0, 1, 2}, 6},
		{"four equal ones", inputs(few, few, few, few), []int{0, 1, 2, 3}, 8},
		{"the smallest one first", inputs(most, more, few), []int{2, 0, 1}, 6},
		{"the smallest one in the middle", inputs(most, few, more, most), []int{1, 0, 2, 3}, 8},
		{"two smallest ones at the end", inputs(most, most, few, few), []int{2, 0, 1, 3}, 8},
		{"an empty join as soon as possible", inputs(few, numbered(1, 9, 1), more, numbered(5, 7, 1)), []int{0, 3, 1, 2}, 2},
		{"an empty join from the middle", inputs(numbered(1, 6, 1), few, numbered(7, 8, 1)), []int{1, 2, 0}, 2},
		{"an empty join from either side", inputs(numbered(1, 2, 1), most, numbered(7, 8, 1)), []int{0, 2, 1}, 2},
	}
	for _, c := range cases {
		expectBest(t, c.name, c.zs, 1, c.want, c.cost)
	}
}

// expectNoJoin expects that Z-sets cannot be joined in any order.
func expectNoJoin(t *testing.T, what string, zs [][]impl.Entry, k int) {
	t.Helper()
	for _, order := range [][]int{nil, {0}, upward(len(zs)), reversedOf(upward(len(zs)))} {
		expectJoined(t, what, zs, order, k, nil)
	}
	expectBest(t, what, zs, k, nil, -1)
}

func reversedOf(list []int) []int {
	backward := slices.Clone(list)
	slices.Reverse(backward)
	return backward
}

func TestP122P123P124ZSetsThatCannotBeJoined(t *testing.T) {
	one, two, six := numbered(1, 2, 1), zset(entry(1, 1, 2), entry(1, 2, 2)), zset(entry(1, repeated(6, 1)...))
	expectNoJoin(t, "no Z-sets", nil, 0)
	expectNoJoin(t, "no Z-sets", [][]impl.Entry{}, 1)
	expectNoJoin(t, "an empty Z-set", inputs(nil), 0)
	expectNoJoin(t, "an empty Z-set first", inputs(nil, one), 0)
	expectNoJoin(t, "an empty Z-set last", inputs(one, two, nil), 1)
	expectNoJoin(t, "an empty Z-set in the middle", inputs(one, []impl.Entry{}, two), 1)
	for _, k := range []int{-1, 2, 3, impl.MaxWidth, math.MaxInt, math.MinInt} {
		expectNoJoin(t, "k is not valid for the first one", inputs(one, two), k)
		expectNoJoin(t, "k is not valid for the last one", inputs(two, two, one), k)
		expectNoJoin(t, "k is not valid for the only one", inputs(one), k)
	}
	for name, z := range invalidZSets() {
		expectNoJoin(t, "alone: "+name, inputs(z), 0)
		expectNoJoin(t, "first: "+name, inputs(z, one), 1)
		expectNoJoin(t, "last: "+name, inputs(one, one, z), 1)
	}
	expectNoJoin(t, "too many columns", inputs(six, one), 0)
	expectNoJoin(t, "too many columns with a key", inputs(six, two), 1)
	expectNoJoin(t, "too many columns of several", inputs(two, two, two, one), 0)
	expectNoJoin(t, "too many columns, although all partial joins but the last have few", inputs(one, two, two, six), 1)
}

func TestP122P123P124Limits(t *testing.T) {
	if impl.MaxRelations != 4 {
		t.Errorf("MaxRelations = %d", impl.MaxRelations)
	}
	one := numbered(1, 2, 1)
	for n := 1; n <= 7; n++ {
		zs := slices.Repeat(inputs(one), n)
		if n > 4 {
			expectNoJoin(t, fmt.Sprint(n, " Z-sets"), zs, 1)
			continue
		}
		for _, order := range ordersOf(n) {
			expectJoined(t, fmt.Sprint(n, " Z-sets"), zs, order, 1, zs)
		}
		expectBest(t, fmt.Sprint(n, " Z-sets"), zs, 1, upward(n), 2*n)
	}
	// The result has k columns, and the others of each Z-set.
	for k := range impl.MaxWidth + 1 {
		for a := max(k, 1); a <= impl.MaxWidth; a++ {
			for b := max(k, 1); b <= impl.MaxWidth; b++ {
				zs := inputs(zset(entry(2, repeated(a, 1)...)), zset(entry(3, repeated(b, 1)...)))
				what := fmt.Sprintf("the widths %d and %d", a, b)
				width := a + b - k
				if width > 6 {
					expectNoJoin(t, what, zs, k)
					continue
				}
				expectJoined(t, what, zs, []int{0, 1}, k, inputs(zs[0], zset(entry(6, repeated(width, 1)...))))
				expectBest(t, what, zs, k, []int{0, 1}, 2)
			}
		}
	}
}

func TestP122P123InvalidOrders(t *testing.T) {
	one := numbered(1, 2, 1)
	zs := inputs(one, one, one)
	for _, order := range [][]int{
		nil, {}, {0}, {0, 1}, {2, 1}, {0, 1, 1}, {0, 0, 0}, {1, 1, 2}, {2, 2, 2}, {0, 1, 3}, {1, 2, 3}, {-1, 0, 1}, {0, -1, 1}, {0, 1, -1},
		{0, 1, 2, 0}, {0, 1, 2, 3}, {0, 1, 2, 2}, {0, 1, math.MaxInt}, {math.MinInt, 0, 1}, {0, 0, 1, 1, 2, 2}, repeated(1000, 0),
	} {
		expectJoined(t, "the order is not valid", zs, order, 1, nil)
	}
	for _, order := range [][]int{nil, {}, {1}, {-1}, {0, 0}, {0, 1}} {
		expectJoined(t, "the order is not valid for one", zs[:1], order, 1, nil)
	}
}

func TestOrderFunctionsReturnNewMemory(t *testing.T) {
	r := newRandom()
	for range 50 {
		c := randomOrderCase(r)
		order := r.Perm(len(c.zs))
		if len(impl.JoinAll(c.zs, order, c.k)) > 0 {
			expectFresh(t, "JoinAll", impl.JoinAll, c.zs, order, c.k)
		}
		expectFresh(t, "JoinSizes", impl.JoinSizes, c.zs, order, c.k)
		expectFresh(t, "BestJoinOrder", impl.BestJoinOrder, c.zs, c.k)
	}
	expectFresh(t, "JoinAll of one Z-set", impl.JoinAll, inputs(numbered(1, 3, 1)), []int{0}, 0)
}
