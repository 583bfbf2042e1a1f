package tests

import (
	"fmt"
	"math"
	"slices"
	"testing"

	"loop.example/dataflow/impl"
)

// aggregated is the reference for the aggregate of a group.
func aggregated(group []impl.Entry, kind int, col int) (int, bool) {
	count, sum := 0, 0
	var values []int
	for _, e := range group {
		count += e.Weight
		sum += e.Weight * e.Row[col]
		if e.Weight > 0 {
			values = append(values, e.Row[col])
		}
	}
	switch {
	case kind == impl.Count:
		return count, count != 0
	case kind == impl.Sum:
		return sum, count != 0
	case len(values) == 0:
		return 0, false
	case kind == impl.Minimum:
		return slices.Min(values), true
	default:
		return slices.Max(values), true
	}
}

// beginnings returns the keys of all groups in order.
func beginnings(z []impl.Entry, k int) [][]int {
	var keys [][]int
	for _, e := range z {
		keys = append(keys, e.Row[:k])
	}
	return slices.CompactFunc(keys, slices.Equal)
}

// reduced is the reference for Reduce.
func reduced(z []impl.Entry, k int, kind int, col int) []impl.Entry {
	var list []impl.Entry
	for _, key := range beginnings(z, k) {
		if value, exists := aggregated(inGroup(z, key), kind, col); exists {
			list = append(list, entry(1, append(slices.Clone(key), value)...))
		}
	}
	return list
}

// firstOf is the reference for FirstRows of one group: it takes one row after the other.
func firstOf(group []impl.Entry, n int) []impl.Entry {
	var list []impl.Entry
	for _, e := range group {
		for range max(e.Weight, 0) {
			if len(list) < n {
				list = append(list, entry(1, e.Row...))
			}
		}
	}
	return sumOf(list)
}

// positive returns the entries with positive weight.
func positive(z []impl.Entry) []impl.Entry {
	return slices.DeleteFunc(slices.Clone(z), func(e impl.Entry) bool { return e.Weight < 0 })
}

func TestP36CountsAddUp(t *testing.T) {
	r := newRandom()
	for range 300 {
		width := between(r, 1, 3)
		z := randomZSet(r, width)
		for k := range width + 1 {
			counts := impl.Reduce(z, k, impl.Count, 0)
			expectZSet(t, "Reduce with Count", counts, reduced(z, k, impl.Count, 0))
			expectBool(t, "IsSet of Reduce", impl.IsSet(counts), true)
			total := 0
			for _, e := range counts {
				total += e.Row[k]
				if e.Row[k] == 0 {
					t.Errorf("Reduce(%v, %d, Count, 0) has a count 0", z, k)
				}
			}
			if total != impl.TotalWeight(z) {
				t.Errorf("counts of %v add up to %d", z, total)
			}
		}
	}
}

func TestP36ReduceIsTheDefinition(t *testing.T) {
	if impl.Count != 1 || impl.Sum != 2 || impl.Minimum != 3 || impl.Maximum != 4 {
		t.Error("kinds of aggregates")
	}
	r := newRandom()
	for range 200 {
		width := between(r, 1, 3)
		z := randomZSet(r, width)
		for k := range width + 1 {
			for kind := 1; kind <= 4; kind++ {
				for col := range width {
					what := fmt.Sprintf("Reduce(%v, %d, %d, %d)", z, k, kind, col)
					expectZSet(t, what, impl.Reduce(z, k, kind, col), reduced(z, k, kind, col))
				}
			}
		}
	}
}

func TestP36AggregatesOfNegativeWeights(t *testing.T) {
	cases := []struct {
		name                         string
		group                        []impl.Entry
		count, sum, minimum, maximum []int
	}{
		{"one row", zset(entry(1, 7)), []int{1}, []int{7}, []int{7}, []int{7}},
		{"some rows", zset(entry(2, -3), entry(1, 0), entry(3, 5)), []int{6}, []int{9}, []int{-3}, []int{5}},
		{"a negative count", zset(entry(-2, 3), entry(1, 4)), []int{-1}, []int{-2}, []int{4}, []int{4}},
		{"only negative weights", zset(entry(-2, 3), entry(-1, 4)), []int{-3}, []int{-10}, nil, nil},
		{"negative weights at both ends", zset(entry(-9, 1), entry(1, 2), entry(1, 3), entry(-9, 4)), []int{-16}, []int{-40}, []int{2}, []int{3}},
		{"weights that cancel", zset(entry(-2, 3), entry(2, 4)), nil, nil, []int{4}, []int{4}},
		{"the sum is 0", zset(entry(1, -4), entry(1, 4)), []int{2}, []int{0}, []int{-4}, []int{4}},
		{"the sum of weights with the value 0", zset(entry(5, 0)), []int{5}, []int{0}, []int{0}, []int{0}},
		{"negative values", zset(entry(1, -4), entry(1, -2)), []int{2}, []int{-6}, []int{-4}, []int{-2}},
		{"positive values", zset(entry(1, 2), entry(1, 4)), []int{2}, []int{6}, []int{2}, []int{4}},
		{"nothing", nil, nil, nil, nil, nil},
	}
	for _, c := range cases {
		var keyed []impl.Entry
		for _, e := range c.group {
			keyed = append(keyed, entry(e.Weight, 6, e.Row[0]))
		}
		for i, value := range [][]int{c.count, c.sum, c.minimum, c.maximum} {
			var want, wantKeyed []impl.Entry
			if value != nil {
				want = zset(entry(1, value...))
				wantKeyed = zset(entry(1, 6, value[0]))
			}
			what := fmt.Sprintf("Reduce with the aggregate %d: %s", i+1, c.name)
			expectZSet(t, what, impl.Reduce(c.group, 0, i+1, 0), want)
			expectZSet(t, what+", with a key", impl.Reduce(keyed, 1, i+1, 1), wantKeyed)
		}
	}
}

func TestP36ReduceAtItsEdges(t *testing.T) {
	z := zset(entry(2, 1, 5), entry(-2, 1, 6), entry(3, 2, 4), entry(-1, 3, 9))
	expectZSet(t, "Reduce with Count", impl.Reduce(z, 1, impl.Count, 0), zset(entry(1, 2, 3), entry(1, 3, -1)))
	expectZSet(t, "Reduce with Sum", impl.Reduce(z, 1, impl.Sum, 1), zset(entry(1, 2, 12), entry(1, 3, -9)))
	expectZSet(t, "Reduce with Minimum", impl.Reduce(z, 1, impl.Minimum, 1), zset(entry(1, 1, 5), entry(1, 2, 4)))
	expectZSet(t, "Reduce with Maximum", impl.Reduce(z, 1, impl.Maximum, 1), zset(entry(1, 1, 5), entry(1, 2, 4)))
	expectZSet(t, "Reduce of a column of the key", impl.Reduce(z, 1, impl.Sum, 0), zset(entry(1, 2, 6), entry(1, 3, -3)))
	expectZSet(t, "Reduce on all columns", impl.Reduce(z, 2, impl.Count, 1),
		zset(entry(1, 1, 5, 2), entry(1, 1, 6, -2), entry(1, 2, 4, 3), entry(1, 3, 9, -1)))
	expectZSet(t, "Reduce without a key", impl.Reduce(z, 0, impl.Count, 1), zset(entry(1, 2)))
	most := numbered(1, impl.MaxEntries, 1)
	var counts []impl.Entry
	for _, e := range most {
		counts = append(counts, entry(1, e.Row[0], 1))
	}
	expectZSet(t, "Reduce with the most groups", impl.Reduce(most, 1, impl.Count, 0), counts)
	expectZSet(t, "Reduce of the largest group", impl.Reduce(most, 0, impl.Count, 0), zset(entry(1, impl.MaxEntries)))
	for kind := 1; kind <= 4; kind++ {
		expectZSet(t, "Reduce of nothing", impl.Reduce(nil, 0, kind, 0), nil)
		expectZSet(t, "Reduce of nothing with a key", impl.Reduce([]impl.Entry{}, 1, kind, 0), nil)
	}
}

func TestP36ReduceLimitsTheValues(t *testing.T) {
	top := impl.MaxValue
	cases := []struct {
		name string
		z    []impl.Entry
		kind int
		want []impl.Entry
	}{
		{"the largest count", zset(entry(top, 1, 1), entry(1, 2, 1)), impl.Count, zset(entry(1, 1, top), entry(1, 2, 1))},
		{"a count too large", zset(entry(top+1, 1, 1), entry(1, 2, 1)), impl.Count, nil},
		{"the smallest count", zset(entry(-top, 1, 1), entry(1, 2, 1)), impl.Count, zset(entry(1, 1, -top), entry(1, 2, 1))},
		{"a count too small", zset(entry(-top-1, 1, 1), entry(1, 2, 1)), impl.Count, nil},
		{"a count too large on the way", zset(entry(top+1, 1, 1), entry(-1, 1, 2)), impl.Count, zset(entry(1, 1, top))},
		{"the largest sum", zset(entry(1, 1, 1), entry(1, 1, top-1)), impl.Sum, zset(entry(1, 1, top))},
		{"a sum too large", zset(entry(1, 1, 1), entry(1, 1, top), entry(1, 2, 1)), impl.Sum, nil},
		{"the smallest sum", zset(entry(1, 1, -top+1), entry(1, 1, -1)), impl.Sum, zset(entry(1, 1, -top))},
		{"a sum too small", zset(entry(1, 1, -top), entry(1, 1, -1), entry(1, 2, 1)), impl.Sum, nil},
		{"a sum too large on the way", zset(entry(top+2, 1, 1), entry(-1, 1, 2)), impl.Sum, zset(entry(1, 1, top))},
		{"a sum that does not exist", zset(entry(impl.MaxWeight, 1, 1), entry(-impl.MaxWeight, 1, top), entry(1, 2, 1)), impl.Sum, zset(entry(1, 2, 1))},
		{"the largest minimum", zset(entry(impl.MaxWeight, 1, top)), impl.Minimum, zset(entry(1, 1, top))},
		{"the smallest minimum", zset(entry(1, 1, -top), entry(1, 1, top)), impl.Minimum, zset(entry(1, 1, -top))},
		{"the largest maximum", zset(entry(1, 1, -top), entry(1, 1, top)), impl.Maximum, zset(entry(1, 1, top))},
		{"the smallest maximum", zset(entry(impl.MaxWeight, 1, -top)), impl.Maximum, zset(entry(1, 1, -top))},
	}
	for _, c := range cases {
		expectZSet(t, "Reduce: "+c.name, impl.Reduce(c.z, 1, c.kind, 1), c.want)
	}
}

func TestP36ReduceOfInvalidArguments(t *testing.T) {
	z := zset(entry(1, 1, 5), entry(2, 1, 6))
	for kind := 1; kind <= 4; kind++ {
		for _, k := range badNumbersOfColumns(2) {
			expectZSet(t, fmt.Sprint("Reduce on ", k), impl.Reduce(z, k, kind, 0), nil)
		}
		for _, col := range append(badNumbersOfColumns(2), 2) {
			expectZSet(t, fmt.Sprint("Reduce of the column ", col), impl.Reduce(z, 1, kind, col), nil)
		}
		widest := zset(entry(1, repeated(impl.MaxWidth, 1)...))
		last := impl.MaxWidth - 1
		expectZSet(t, "Reduce with the longest key", impl.Reduce(widest, last, kind, last), widest)
		expectZSet(t, "Reduce with a key that is too long", impl.Reduce(widest, impl.MaxWidth, kind, last), nil)
		for name, invalid := range invalidZSets() {
			expectZSet(t, "Reduce: "+name, impl.Reduce(invalid, 0, kind, 0), nil)
		}
	}
	for _, kind := range []int{0, 5, -1, math.MaxInt, math.MinInt} {
		expectZSet(t, fmt.Sprint("Reduce with the kind ", kind), impl.Reduce(z, 1, kind, 1), nil)
		expectZSet(t, fmt.Sprint("Reduce of nothing with the kind ", kind), impl.Reduce(nil, 0, kind, 0), nil)
	}
}

func TestP37MinimumAndMaximumBoundTheValues(t *testing.T) {
	r := newRandom()
	for range 300 {
		width := between(r, 2, 3)
		z := impl.Distinct(randomZSet(r, width))
		for k := range width {
			counts, sums := impl.Reduce(z, k, impl.Count, k), impl.Reduce(z, k, impl.Sum, k)
			minima, maxima := impl.Reduce(z, k, impl.Minimum, k), impl.Reduce(z, k, impl.Maximum, k)
			keys := beginnings(z, k)
			if len(counts) != len(keys) || len(sums) != len(keys) || len(minima) != len(keys) || len(maxima) != len(keys) {
				t.Fatalf("Reduce of %v on %d: %v, %v, %v, %v", z, k, counts, sums, minima, maxima)
			}
			for i, key := range keys {
				count, sum := counts[i].Row[k], sums[i].Row[k]
				low, high := minima[i].Row[k], maxima[i].Row[k]
				if low > high || sum < count*low || sum > count*high {
					t.Errorf("Reduce of %v, key %v: count %d, sum %d, minimum %d, maximum %d", z, key, count, sum, low, high)
				}
				for _, value := range []int{low, high} {
					if !slices.ContainsFunc(inGroup(z, key), func(e impl.Entry) bool { return e.Row[k] == value }) {
						t.Errorf("Reduce of %v, key %v: %d is not a value", z, key, value)
					}
				}
			}
		}
	}
}

func TestP38AGroupHasTheEntriesOfItsKey(t *testing.T) {
	r := newRandom()
	for range 100 {
		width := between(r, 1, 3)
		z := randomZSet(r, width)
		for k := 1; k <= width; k++ {
			for _, key := range anyKeys(k) {
				expectZSet(t, fmt.Sprintf("Group(%v, %v)", z, key), impl.Group(z, key), inGroup(z, key))
			}
		}
	}
}

func TestP38GroupAtItsEdges(t *testing.T) {
	z := zset(entry(2, 0, 5), entry(-1, 1, 0), entry(-2, 1, 5), entry(3, 1, 6), entry(4, 2, 1))
	expectZSet(t, "Group", impl.Group(z, []int{1}), z[1:4])
	expectZSet(t, "Group of the whole width", impl.Group(z, []int{1, 5}), z[2:3])
	expectZSet(t, "Group of a second column", impl.Group(z, []int{5}), nil)
	most := numbered(1, impl.MaxEntries, impl.MaxWeight)
	expectZSet(t, "Group of one of the most entries", impl.Group(most, []int{impl.MaxEntries}), most[impl.MaxEntries-1:])
	var largest []impl.Entry
	for i := range impl.MaxEntries {
		largest = append(largest, entry(1, -impl.MaxValue, i))
	}
	expectZSet(t, "Group of the most entries", impl.Group(largest, []int{-impl.MaxValue}), largest)
	widest := zset(entry(1, repeated(impl.MaxWidth, impl.MaxValue)...))
	expectZSet(t, "Group of the widest row", impl.Group(widest, repeated(impl.MaxWidth, impl.MaxValue)), widest)
	expectZSet(t, "Group of the widest row with a longer key", impl.Group(widest, repeated(impl.MaxWidth+1, impl.MaxValue)), nil)
	for _, key := range [][]int{nil, {}, {1, 5, 0}, {1, 5, 1}, {1, 0, 0, 0, 0, 0, 0}, {impl.MaxValue + 1}, {math.MinInt}, {1, math.MaxInt}} {
		expectZSet(t, fmt.Sprint("Group of the key ", key), impl.Group(z, key), nil)
		expectZSet(t, fmt.Sprint("Group of nothing, key ", key), impl.Group(nil, key), nil)
	}
	for name, invalid := range invalidZSets() {
		expectZSet(t, "Group: "+name, impl.Group(invalid, []int{1}), nil)
		expectZSet(t, "Group of another row: "+name, impl.Group(invalid, []int{2}), nil)
	}
}

func TestP39TheFirstRowsAreRows(t *testing.T) {
	r := newRandom()
	for range 200 {
		width := between(r, 1, 3)
		z := randomZSet(r, width)
		for k := range width + 1 {
			for n := range 8 {
				var want []impl.Entry
				first := impl.FirstRows(z, k, n)
				for _, key := range beginnings(z, k) {
					want = append(want, firstOf(inGroup(z, key), n)...)
					if total := impl.TotalWeight(inGroup(first, key)); total > n {
						t.Errorf("FirstRows(%v, %d, %d) has the total weight %d for the key %v", z, k, n, total, key)
					}
				}
				expectZSet(t, fmt.Sprintf("FirstRows(%v, %d, %d)", z, k, n), first, want)
				for _, e := range first {
					if e.Weight < 0 || e.Weight > impl.WeightOf(z, e.Row) {
						t.Errorf("FirstRows(%v, %d, %d) has %v", z, k, n, e)
					}
				}
			}
			expectZSet(t, "FirstRows with a large number", impl.FirstRows(z, k, impl.MaxWeight), positive(z))
		}
	}
}

func TestP39FirstRowsAtItsEdges(t *testing.T) {
	big := impl.MaxWeight
	z := zset(entry(-4, 1, 1), entry(3, 1, 2), entry(-1, 1, 3), entry(2, 1, 4), entry(9, 2, 0), entry(-9, 3, 0))
	cases := []struct {
		name string
		z    []impl.Entry
		k, n int
		want []impl.Entry
	}{
		{"no rows", z, 1, 0, nil},
		{"one row of each group", z, 1, 1, zset(entry(1, 1, 2), entry(1, 2, 0))},
		{"a whole row", z, 1, 3, zset(entry(3, 1, 2), entry(3, 2, 0))},
		{"a part of the second row", z, 1, 4, zset(entry(3, 1, 2), entry(1, 1, 4), entry(4, 2, 0))},
		{"all rows", z, 1, 9, zset(entry(3, 1, 2), entry(2, 1, 4), entry(9, 2, 0))},
		{"without a key", z, 0, 6, zset(entry(3, 1, 2), entry(2, 1, 4), entry(1, 2, 0))},
		{"on the whole width", z, 2, 2, zset(entry(2, 1, 2), entry(2, 1, 4), entry(2, 2, 0))},
		{"nothing", nil, 0, 5, nil},
		{"nothing with a key", nil, 1, 5, nil},
		{"only negative weights", numbered(1, 3, -1), 0, 5, nil},
		{"the largest number", zset(entry(big-1, 1), entry(big, 2)), 0, big, zset(entry(big-1, 1), entry(1, 2))},
		{"the largest number of each group", zset(entry(big, 1), entry(big, 2)), 1, big, zset(entry(big, 1), entry(big, 2))},
		{"the most entries", numbered(1, impl.MaxEntries, 5), 1, 1, numbered(1, impl.MaxEntries, 1)},
		{"the most entries of one group", numbered(1, impl.MaxEntries, 1), 0, impl.MaxEntries - 1, numbered(1, impl.MaxEntries-1, 1)},
		{"the largest key", zset(entry(3, repeated(impl.MaxWidth, 1)...)), impl.MaxWidth, 2, zset(entry(2, repeated(impl.MaxWidth, 1)...))},
		{"a negative number", z, 1, -1, nil},
		{"the smallest number", z, 1, math.MinInt, nil},
		{"a number too large", z, 1, big + 1, nil},
		{"the largest int", z, 1, math.MaxInt, nil},
	}
	for _, c := range cases {
		expectZSet(t, "FirstRows: "+c.name, impl.FirstRows(c.z, c.k, c.n), c.want)
	}
	for _, k := range badNumbersOfColumns(2) {
		expectZSet(t, fmt.Sprint("FirstRows on ", k), impl.FirstRows(z, k, 3), nil)
	}
	for name, invalid := range invalidZSets() {
		expectZSet(t, "FirstRows: "+name, impl.FirstRows(invalid, 0, 3), nil)
	}
}

func TestAggregateFunctionsReturnNewMemory(t *testing.T) {
	z := zset(entry(2, 1, 2), entry(-1, 1, 3), entry(3, 5, 0))
	for kind := 1; kind <= 4; kind++ {
		for k := range 3 {
			expectFresh(t, "Reduce", impl.Reduce, z, k, kind, 1)
		}
	}
	expectFresh(t, "Group", impl.Group, z, []int{1})
	expectFresh(t, "Group of the whole width", impl.Group, z, []int{5, 0})
	expectFresh(t, "FirstRows", impl.FirstRows, z, 1, 1)
	expectFresh(t, "FirstRows with a large number", impl.FirstRows, z, 0, 100)
}
