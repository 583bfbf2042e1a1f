package tests

import (
	"fmt"
	"math"
	"math/rand/v2"
	"runtime"
	"slices"
	"testing"
	"time"

	"loop.example/dataflow/impl"
)

// workerOf is the reference for ShardOf.
func workerOf(row []int, k int, workers int) int {
	h := 7
	for _, value := range row[:k] {
		h = (31*h + value + 9999) % 1000003
	}
	return h % workers
}

// shardOfWorker is the reference for one of the shards.
func shardOfWorker(z []impl.Entry, k int, workers int, worker int) []impl.Entry {
	return slices.DeleteFunc(slices.Clone(z), func(e impl.Entry) bool { return workerOf(e.Row, k, workers) != worker })
}

// shardsByDefinition is the reference for Shards.
func shardsByDefinition(z []impl.Entry, k int, workers int) [][]impl.Entry {
	var shards [][]impl.Entry
	for worker := range workers {
		shards = append(shards, shardOfWorker(z, k, workers, worker))
	}
	return shards
}

// addedOneByOne is the reference for sums of which a part may be too large.
func addedOneByOne(list [][]impl.Entry) []impl.Entry {
	var sum []impl.Entry
	for _, z := range list {
		sum = sumOf(sum, z)
		if !impl.ValidZSet(sum) {
			sum = nil
		}
	}
	return sum
}

// shardedJoinByDefinition joins the shards of one worker after the other.
func shardedJoinByDefinition(a []impl.Entry, b []impl.Entry, k int, workers int) []impl.Entry {
	var parts [][]impl.Entry
	for worker := range workers {
		parts = append(parts, impl.Join(shardOfWorker(a, k, workers, worker), shardOfWorker(b, k, workers, worker), k))
	}
	return addedOneByOne(parts)
}

// shardedReduceByDefinition reduces the shard of one worker after the other.
func shardedReduceByDefinition(z []impl.Entry, k int, kind int, col int, workers int) []impl.Entry {
	var parts [][]impl.Entry
	for _, shard := range shardsByDefinition(z, k, workers) {
		parts = append(parts, impl.Reduce(shard, k, kind, col))
	}
	return addedOneByOne(parts)
}

func badWorkers() []int {
	return append(extremeNumbers(impl.MaxWorkers), 0)
}

// largeZSet has up to MaxEntries rows with any values.
func largeZSet(r *rand.Rand, width int) []impl.Entry {
	var entries []impl.Entry
	for range between(r, 100, impl.MaxEntries) {
		entries = append(entries, entry(between(r, 1, 9), randomList(r, width, impl.MaxValue)...))
	}
	return sumOf(entries)
}

func expectWorker(t *testing.T, row []int, k int, workers int, want int) {
	t.Helper()
	if got := impl.ShardOf(row, k, workers); got != want {
		t.Errorf("ShardOf(%v, %d, %d) = %d, want %d", row, k, workers, got, want)
	}
}

func TestP90RowsWithTheSameKeyHaveTheSameWorker(t *testing.T) {
	r := newRandom()
	for range 300 {
		row := randomList(r, between(r, 1, impl.MaxWidth), impl.MaxValue)
		for k := range len(row) + 1 {
			for workers := 1; workers <= impl.MaxWorkers; workers++ {
				worker := impl.ShardOf(row, k, workers)
				expectWorker(t, row, k, workers, workerOf(row, k, workers))
				if worker < 0 || worker >= workers || workers == 1 && worker != 0 {
					t.Errorf("ShardOf(%v, %d, %d) = %d", row, k, workers, worker)
				}
				if k > 0 {
					expectWorker(t, row[:k], k, workers, worker)
				}
				others := append(slices.Clone(row[:k]), randomList(r, impl.MaxWidth-k, impl.MaxValue)...)
				if len(others) > 0 {
					expectWorker(t, others, k, workers, worker)
				}
			}
		}
	}
}

func TestP90GivenWorkers(t *testing.T) {
	top := impl.MaxValue
	cases := []struct {
		row     []int
		k       int
		workers int
		want    int
	}{
		{[]int{1}, 1, 8, 1},
		{[]int{1, 5}, 1, 8, 1},
		{[]int{1, 5}, 2, 8, 3},
		{[]int{5, 1}, 2, 8, 3},
		{[]int{5, 1}, 2, 7, 0},
		{[]int{1, 5}, 2, 7, 6},
		{[]int{1, 5, 9}, 3, 8, 7},
		{[]int{-top}, 1, 8, 1},
		{[]int{-top}, 1, 5, 2},
		{[]int{top}, 1, 7, 6},
		{[]int{0}, 1, 3, 1},
		{repeated(impl.MaxWidth, top), impl.MaxWidth, 8, 3},
	}
	for _, c := range cases {
		expectWorker(t, c.row, c.k, c.workers, c.want)
	}
	for i, want := range []int{0, 1, 1, 3, 2, 1, 0, 7} {
		for _, row := range [][]int{{1}, {-5, 7}, repeated(impl.MaxWidth, top)} {
			expectWorker(t, row, 0, i+1, want)
		}
	}
}

func TestP90InvalidArguments(t *testing.T) {
	if impl.MaxWorkers != 8 {
		t.Errorf("MaxWorkers = %d", impl.MaxWorkers)
	}
	for _, row := range invalidRows() {
		for _, k := range []int{0, 1, len(row)} {
			for workers := 1; workers <= impl.MaxWorkers; workers++ {
				expectWorker(t, row, k, workers, -1)
			}
		}
	}
	for width := 1; width <= impl.MaxWidth; width++ {
		row := repeated(width, 3)
		for _, k := range badNumbersOfColumns(width) {
			expectWorker(t, row, k, 1, -1)
			expectWorker(t, row, k, impl.MaxWorkers, -1)
		}
		for _, workers := range badWorkers() {
			expectWorker(t, row, 0, workers, -1)
			expectWorker(t, row, width, workers, -1)
		}
	}
}

func TestP91ShardsDivideAZSet(t *testing.T) {
	r := newRandom()
	for i := range 300 {
		width := between(r, 1, 3)
		z := randomZSet(r, width)
		if i%10 == 0 {
			z = largeZSet(r, width)
		}
		for k := range width + 1 {
			for workers := 1; workers <= impl.MaxWorkers; workers++ {
				shards := impl.Shards(z, k, workers)
				what := fmt.Sprintf("Shards(%v, %d, %d)", z, k, workers)
				expectZSets(t, what, shards, shardsByDefinition(z, k, workers))
				expectZSet(t, "Gather of "+what, impl.Gather(shards), z)
				for worker, shard := range shards {
					expectBool(t, "ValidZSet of the shards of "+what, impl.ValidZSet(shard), true)
					for _, e := range shard {
						expectWorker(t, e.Row, k, workers, worker)
					}
				}
			}
		}
	}
}

func TestP91ShardsAtTheirEdges(t *testing.T) {
	z := zset(entry(-2, 1, 5), entry(3, 1, 6), entry(1, 2, 5))
	for workers := 1; workers <= impl.MaxWorkers; workers++ {
		all := make([][]impl.Entry, workers)
		for _, k := range []int{0, 1, impl.MaxWidth, impl.MaxWidth + 1, math.MaxInt} {
			expectZSets(t, fmt.Sprintf("Shards of nothing for %d, %d", k, workers), impl.Shards(nil, k, workers), all)
			expectZSets(t, fmt.Sprintf("Shards of an empty list for %d, %d", k, workers), impl.Shards(zset(), k, workers), all)
		}
		all[7%workers] = z
		expectZSets(t, fmt.Sprintf("Shards of keys without columns for %d", workers), impl.Shards(z, 0, workers), all)
	}
	expectZSets(t, "Shards", impl.Shards(z, 1, 3), [][]impl.Entry{z[2:], nil, z[:2]})
	most := numbered(1, impl.MaxEntries, 1)
	expectZSets(t, "Shards of the most entries", impl.Shards(most, 1, impl.MaxWorkers), shardsByDefinition(most, 1, impl.MaxWorkers))
	expectZSets(t, "Shards of the most entries for one", impl.Shards(most, 1, 1), inputs(most))
}

func TestP91InvalidArguments(t *testing.T) {
	z := zset(entry(1, 1, 5), entry(1, 2, 5))
	for name, invalid := range invalidZSets() {
		for _, k := range []int{0, 1} {
			expectZSets(t, "Shards: "+name, impl.Shards(invalid, k, 3), nil)
		}
	}
	for _, k := range badNumbersOfColumns(2) {
		expectZSets(t, fmt.Sprint("Shards by ", k), impl.Shards(z, k, 3), nil)
	}
	for _, k := range []int{-1, math.MinInt} {
		expectZSets(t, fmt.Sprint("Shards of nothing by ", k), impl.Shards(nil, k, 3), nil)
	}
	for _, workers := range badWorkers() {
		expectZSets(t, fmt.Sprint("Shards for workers ", workers), impl.Shards(z, 1, workers), nil)
		expectZSets(t, fmt.Sprint("Shards of nothing for workers ", workers), impl.Shards(nil, 0, workers), nil)
	}
}

func TestP92GatheringAdds(t *testing.T) {
	r := newRandom()
	for range 500 {
		width := between(r, 1, 3)
		var list [][]impl.Entry
		for range r.IntN(impl.MaxWorkers + 1) {
			list = append(list, randomZSet(r, width))
		}
		what := fmt.Sprintf("Gather(%v)", list)
		sum := impl.Gather(list)
		expectZSet(t, what, sum, sumOf(list...))
		for i := range len(list) + 1 {
			expectZSet(t, what+" in two parts", impl.Add(impl.Gather(list[:i]), impl.Gather(list[i:])), sum)
		}
		for _, z := range list {
			expectZSet(t, "Gather of one Z-set", impl.Gather(inputs(z)), z)
		}
	}
}

func TestP92PartialSumsThatAreNotZSets(t *testing.T) {
	one, more := zset(entry(1, 1)), zset(entry(-1, 1), entry(2, 2))
	heaviest := zset(entry(impl.MaxWeight, 1))
	most := numbered(1, impl.MaxEntries, 1)
	cases := []struct {
		name string
		list [][]impl.Entry
		want []impl.Entry
	}{
		{"nothing", nil, nil},
		{"empty Z-sets", inputs(nil, zset(), nil), nil},
		{"weights that cancel", inputs(one, zset(entry(-1, 1))), nil},
		{"the largest weight", inputs(zset(entry(impl.MaxWeight-1, 1)), one), heaviest},
		{"a weight too large", inputs(heaviest, one), nil},
		{"a weight too large, then another one", inputs(heaviest, one, more), more},
		{"a weight that would be in range again", inputs(heaviest, one, negated(one)), negated(one)},
		{"a weight too small", inputs(negated(heaviest), negated(one), one, one), zset(entry(2, 1))},
		{"a weight that stays in range", inputs(heaviest, negated(one), one), heaviest},
		{"the most entries", inputs(most[:200], most[200:]), most},
		{"too many entries", inputs(most, numbered(401, 401, 1)), nil},
		{"too many entries, then another one", inputs(most, numbered(401, 401, 1), one), one},
		{"widths differ", inputs(one, zset(entry(1, 1, 1))), nil},
		{"widths differ, then another one", inputs(one, zset(entry(1, 1, 1)), zset(entry(5, 1, 2))), zset(entry(5, 1, 2))},
		{"widths differ after an empty sum", inputs(one, negated(one), zset(entry(1, 1, 1))), zset(entry(1, 1, 1))},
	}
	for _, c := range cases {
		expectZSet(t, "Gather: "+c.name, impl.Gather(c.list), c.want)
	}
}

func TestP92InvalidArguments(t *testing.T) {
	one := zset(entry(1, 1))
	for count := range impl.MaxWorkers + 5 {
		var want []impl.Entry
		if 1 <= count && count <= 8 {
			want = zset(entry(count, 1))
		}
		expectZSet(t, fmt.Sprintf("Gather of %d", count), impl.Gather(slices.Repeat(inputs(one), count)), want)
	}
	expectZSet(t, "Gather of one Z-set and too many empty ones", impl.Gather(append(inputs(one), make([][]impl.Entry, impl.MaxWorkers)...)), nil)
	for name, z := range invalidZSets() {
		for _, list := range [][][]impl.Entry{{z}, {z, one}, {one, z}, {one, z, one}, {nil, z}} {
			expectZSet(t, "Gather: "+name, impl.Gather(list), nil)
		}
	}
}

func TestP93ShardedJoinsAreJoins(t *testing.T) {
	r := newRandom()
	matched := 0
	for range 200 {
		widthA, widthB := between(r, 1, 3), between(r, 1, 3)
		a, b := randomZSet(r, widthA), randomZSet(r, widthB)
		for k := range min(widthA, widthB) + 1 {
			want := joined(a, b, k)
			for workers := 1; workers <= impl.MaxWorkers; workers++ {
				expectZSet(t, fmt.Sprintf("ShardedJoin(%v, %v, %d, %d)", a, b, k, workers), impl.ShardedJoin(a, b, k, workers), want)
			}
			if len(want) > 0 {
				matched++
			}
		}
	}
	if matched < 200 {
		t.Errorf("only %d joins have entries", matched)
	}
}

func TestP93ShardedJoinIsTheDefinition(t *testing.T) {
	r := newRandom()
	for range 30 {
		// Many of these joins are too large for a Z-set, but some of their shards are not.
		a, b := sumOf(randomEntries(r, 300, 3)), sumOf(randomEntries(r, 60, 2))
		for k := range 3 {
			for workers := 1; workers <= impl.MaxWorkers; workers++ {
				what := fmt.Sprintf("ShardedJoin(%v, %v, %d, %d)", a, b, k, workers)
				expectZSet(t, what, impl.ShardedJoin(a, b, k, workers), shardedJoinByDefinition(a, b, k, workers))
			}
		}
	}
	// The keys 2, 0, 1 belong to the workers 0, 1, 2. The pairs of the first two are too many together: those of the last one are left.
	left := slices.Concat(grouped(0, 1, 15, 1), grouped(1, 1, 5, 1), grouped(2, 1, 14, 1))
	right := slices.Concat(grouped(0, 1, 20, 1), grouped(1, 1, 20, 1), grouped(2, 1, 20, 1))
	for worker, key := range []int{2, 0, 1} {
		expectWorker(t, []int{key}, 1, 3, worker)
	}
	expectZSet(t, "Join with too many entries", impl.Join(left, right, 1), nil)
	expectZSet(t, "ShardedJoin of one worker with too many entries", impl.ShardedJoin(left, right, 1, 1), nil)
	expectZSet(t, "ShardedJoin with a partial sum that is too large", impl.ShardedJoin(left, right, 1, 3), joined(grouped(1, 1, 5, 1), right, 1))
	// The part of the first worker is too large alone.
	left = slices.Concat(grouped(1, 1, 2, 1), grouped(2, 1, 21, 1))
	expectZSet(t, "ShardedJoin with a part that is too large", impl.ShardedJoin(left, right, 1, 3), joined(grouped(1, 1, 2, 1), right, 1))
	large := zset(entry(1001, 0, 1), entry(2, 1, 1))
	expectZSet(t, "ShardedJoin with a weight that is too large", impl.ShardedJoin(large, large, 1, 2), zset(entry(4, 1, 1, 1)))
	expectZSet(t, "ShardedJoin of one worker with a weight that is too large", impl.ShardedJoin(large, large, 1, 1), nil)
}

func TestP93InvalidArguments(t *testing.T) {
	one, pair, wide := zset(entry(1, 1)), zset(entry(1, 1, 2)), zset(entry(1, repeated(5, 1)...))
	for workers := 1; workers <= impl.MaxWorkers; workers++ {
		for name, z := range invalidZSets() {
			for k := range 2 {
				expectZSet(t, "ShardedJoin, a: "+name, impl.ShardedJoin(z, one, k, workers), nil)
				expectZSet(t, "ShardedJoin, b: "+name, impl.ShardedJoin(one, z, k, workers), nil)
				expectZSet(t, "ShardedJoin, both: "+name, impl.ShardedJoin(z, z, k, workers), nil)
				expectZSet(t, "ShardedJoin with nothing, a: "+name, impl.ShardedJoin(z, nil, k, workers), nil)
				expectZSet(t, "ShardedJoin with nothing, b: "+name, impl.ShardedJoin(nil, z, k, workers), nil)
			}
		}
		for _, k := range badNumbersOfColumns(2) {
			expectZSet(t, fmt.Sprint("ShardedJoin on ", k), impl.ShardedJoin(pair, pair, k, workers), nil)
			expectZSet(t, fmt.Sprint("ShardedJoin of nothing on ", k), impl.ShardedJoin(nil, nil, k, workers), nil)
		}
		expectZSet(t, "ShardedJoin, a too narrow", impl.ShardedJoin(one, pair, 2, workers), nil)
		expectZSet(t, "ShardedJoin, b too narrow", impl.ShardedJoin(pair, one, 2, workers), nil)
		expectZSet(t, "ShardedJoin too wide", impl.ShardedJoin(wide, pair, 0, workers), nil)
		expectZSet(t, "ShardedJoin just not too wide", impl.ShardedJoin(wide, pair, 1, workers), zset(entry(1, 1, 1, 1, 1, 1, 2)))
		for k := range 3 {
			expectZSet(t, "ShardedJoin with nothing", impl.ShardedJoin(pair, nil, k, workers), nil)
			expectZSet(t, "ShardedJoin of nothing", impl.ShardedJoin(nil, pair, k, workers), nil)
		}
	}
	for _, workers := range badWorkers() {
		expectZSet(t, fmt.Sprint("ShardedJoin for workers ", workers), impl.ShardedJoin(pair, pair, 1, workers), nil)
		expectZSet(t, fmt.Sprint("ShardedJoin of nothing for workers ", workers), impl.ShardedJoin(nil, nil, 0, workers), nil)
	}
}

func TestP94ShardedAggregatesAreAggregates(t *testing.T) {
	r := newRandom()
	for range 100 {
		width := between(r, 1, 3)
		z := randomZSet(r, width)
		for k := range width + 1 {
			for kind := 1; kind <= 4; kind++ {
				for col := range width {
					want := reduced(z, k, kind, col)
					for workers := 1; workers <= impl.MaxWorkers; workers++ {
						what := fmt.Sprintf("ShardedReduce(%v, %d, %d, %d, %d)", z, k, kind, col, workers)
						expectZSet(t, what, impl.ShardedReduce(z, k, kind, col, workers), want)
					}
				}
			}
		}
	}
}

func TestP94ShardedReduceIsTheDefinition(t *testing.T) {
	r := newRandom()
	for range 30 {
		z := largeZSet(r, 2)
		for _, e := range z {
			e.Row[0] %= 20
		}
		z = sumOf(z)
		for k := range 3 {
			for workers := 1; workers <= impl.MaxWorkers; workers++ {
				// Many of these sums are out of range.
				what := fmt.Sprintf("ShardedReduce(%v, %d, Sum, 1, %d)", z, k, workers)
				expectZSet(t, what, impl.ShardedReduce(z, k, impl.Sum, 1, workers), shardedReduceByDefinition(z, k, impl.Sum, 1, workers))
			}
		}
	}
	large := zset(entry(2, 0, impl.MaxValue), entry(3, 1, 5))
	expectZSet(t, "ShardedReduce with a sum that is too large", impl.ShardedReduce(large, 1, impl.Sum, 1, 2), zset(entry(1, 1, 15)))
	expectZSet(t, "ShardedReduce of one worker with a sum that is too large", impl.ShardedReduce(large, 1, impl.Sum, 1, 1), nil)
	expectZSet(t, "ShardedReduce of keys without columns", impl.ShardedReduce(large, 0, impl.Count, 0, 8), zset(entry(1, 5)))
	most := numbered(1, impl.MaxEntries, 3)
	expectZSet(t, "ShardedReduce of the most entries", impl.ShardedReduce(most, 1, impl.Count, 0, 8), impl.Reduce(most, 1, impl.Count, 0))
}

func TestP94InvalidArguments(t *testing.T) {
	pair, widest := zset(entry(1, 1, 2)), zset(entry(1, repeated(impl.MaxWidth, 1)...))
	for workers := 1; workers <= impl.MaxWorkers; workers++ {
		for name, z := range invalidZSets() {
			for k := range 2 {
				expectZSet(t, "ShardedReduce: "+name, impl.ShardedReduce(z, k, impl.Count, 0, workers), nil)
			}
		}
		for _, k := range badNumbersOfColumns(2) {
			expectZSet(t, fmt.Sprint("ShardedReduce by ", k), impl.ShardedReduce(pair, k, impl.Count, 0, workers), nil)
			expectZSet(t, fmt.Sprint("ShardedReduce of the column ", k), impl.ShardedReduce(pair, 1, impl.Count, k, workers), nil)
		}
		expectZSet(t, "ShardedReduce of the column 2", impl.ShardedReduce(pair, 1, impl.Count, 2, workers), nil)
		for _, kind := range append(extremeNumbers(4), 0) {
			expectZSet(t, fmt.Sprint("ShardedReduce of the kind ", kind), impl.ShardedReduce(pair, 1, kind, 0, workers), nil)
		}
		expectZSet(t, "ShardedReduce of nothing", impl.ShardedReduce(nil, 0, impl.Count, 0, workers), nil)
		expectZSet(t, "ShardedReduce by all columns", impl.ShardedReduce(widest, impl.MaxWidth, impl.Count, 0, workers), nil)
		expectZSet(t, "ShardedReduce by all columns but one", impl.ShardedReduce(widest, impl.MaxWidth-1, impl.Count, 0, workers), widest)
	}
	for _, workers := range badWorkers() {
		expectZSet(t, fmt.Sprint("ShardedReduce for workers ", workers), impl.ShardedReduce(pair, 1, impl.Count, 0, workers), nil)
		expectZSet(t, fmt.Sprint("ShardedReduce of nothing for workers ", workers), impl.ShardedReduce(nil, 0, impl.Count, 0, workers), nil)
	}
}

func TestP93P94NoWorkerIsLeft(t *testing.T) {
	z := largeZSet(newRandom(), 2)
	before := runtime.NumGoroutine()
	for range 200 {
		impl.ShardedJoin(z, z, 2, impl.MaxWorkers)
		impl.ShardedReduce(z, 1, impl.Sum, 1, impl.MaxWorkers)
	}
	// A worker has ended its work when the call returns, but may need a moment to disappear.
	for range 5000 {
		if runtime.NumGoroutine() <= before {
			return
		}
		time.Sleep(time.Millisecond)
	}
	t.Errorf("there are %d goroutines, and %d before", runtime.NumGoroutine(), before)
}

func TestP93P94ConcurrentCallsDoNotDisturbEachOther(t *testing.T) {
	z := largeZSet(newRandom(), 2)
	join, sums := impl.Join(z, z, 2), shardedReduceByDefinition(z, 1, impl.Sum, 1, 5)
	ends := make(chan bool)
	for range 8 {
		go func() {
			isSame := true
			for range 20 {
				isSame = isSame && sameZSet(impl.ShardedJoin(z, z, 2, 5), join) && sameZSet(impl.ShardedReduce(z, 1, impl.Sum, 1, 5), sums)
			}
			ends <- isSame
		}()
	}
	for range 8 {
		expectBool(t, "calls at the same time have the same results", <-ends, true)
	}
}

func TestShardFunctionsReturnNewMemory(t *testing.T) {
	z := zset(entry(2, 1, 2), entry(-2, 1, 3), entry(3, 5, 0), entry(4, 6, 0))
	for workers := 1; workers <= impl.MaxWorkers; workers++ {
		for k := range 3 {
			expectFresh(t, "Shards", impl.Shards, z, k, workers)
			expectFresh(t, "ShardedJoin", impl.ShardedJoin, z, z, k, workers)
			expectFresh(t, "ShardedReduce", impl.ShardedReduce, z, k, impl.Maximum, 1, workers)
		}
	}
	expectFresh(t, "Gather", impl.Gather, inputs(z[:2], nil, z[2:]))
	expectFresh(t, "Gather of one", impl.Gather, inputs(z))
}
