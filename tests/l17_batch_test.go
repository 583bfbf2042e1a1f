package tests

import (
	"fmt"
	"math/rand/v2"
	"slices"
	"testing"

	"loop.example/dataflow/impl"
)

func batch(lower []impl.Time, upper []impl.Time, list ...impl.Update) impl.Batch {
	return impl.Batch{Lower: lower, Upper: upper, Updates: list}
}

func batchList(list ...impl.Batch) []impl.Batch {
	return list
}

func frontier(times ...impl.Time) []impl.Time {
	return times
}

func frontierList(list ...[]impl.Time) [][]impl.Time {
	return list
}

// isAtMost is the reference for the order of frontiers, which are valid.
func isAtMost(f []impl.Time, g []impl.Time) bool {
	return !slices.ContainsFunc(g, func(t impl.Time) bool { return !covered(f, t) })
}

// isBetween is the reference for the times of a batch.
func isBetween(lower []impl.Time, upper []impl.Time, t impl.Time) bool {
	return covered(lower, t) && !covered(upper, t)
}

// between returns the updates at the times between two frontiers.
func updatesBetween(list []impl.Update, lower []impl.Time, upper []impl.Time) []impl.Update {
	return slices.DeleteFunc(slices.Clone(list), func(u impl.Update) bool { return !isBetween(lower, upper, u.Time) })
}

// isBatchByDefinition is the reference for ValidBatch, for frontiers and a trace.
func isBatchByDefinition(b impl.Batch) bool {
	return isAtMost(b.Lower, b.Upper) && len(updatesBetween(b.Updates, b.Lower, b.Upper)) == len(b.Updates)
}

func sameBatch(a impl.Batch, b impl.Batch) bool {
	return slices.Equal(a.Lower, b.Lower) && slices.Equal(a.Upper, b.Upper) && slices.EqualFunc(a.Updates, b.Updates, sameUpdate)
}

func expectBatches(t *testing.T, what string, got []impl.Batch, ok bool, want []impl.Batch) {
	t.Helper()
	if !ok || !slices.EqualFunc(got, want, sameBatch) {
		t.Errorf("%s = %v, %v, want %v", what, got, ok, want)
	}
}

// expectNoBatches expects no batches and false.
func expectNoBatches(t *testing.T, what string, got []impl.Batch, ok bool) {
	t.Helper()
	if ok || len(got) != 0 {
		t.Errorf("%s = %v, %v", what, got, ok)
	}
}

func expectNotSplit(t *testing.T, what string, tr []impl.Update, frontiers [][]impl.Time) {
	t.Helper()
	list, ok := impl.SplitTrace(tr, frontiers)
	expectNoBatches(t, "SplitTrace: "+what, list, ok)
}

func expectMerged(t *testing.T, what string, a impl.Batch, b impl.Batch, want impl.Batch) {
	t.Helper()
	merged, ok := impl.MergeBatches(a, b)
	expectBatches(t, "MergeBatches: "+what, batchList(merged), ok, batchList(want))
}

func expectNotMerged(t *testing.T, what string, a impl.Batch, b impl.Batch) {
	t.Helper()
	merged, ok := impl.MergeBatches(a, b)
	if ok || merged.Lower != nil || merged.Upper != nil || merged.Updates != nil {
		t.Errorf("MergeBatches: %s = %v, %v", what, merged, ok)
	}
}

func expectRead(t *testing.T, what string, list []impl.Batch, time impl.Time, want []impl.Entry) {
	t.Helper()
	z, ok := impl.BatchesAsOf(list, time)
	if !ok || !sameZSet(z, want) {
		t.Errorf("BatchesAsOf %v: %s = %v, %v, want %v", time, what, z, ok, want)
	}
}

func expectNotRead(t *testing.T, what string, list []impl.Batch, time impl.Time) {
	t.Helper()
	z, ok := impl.BatchesAsOf(list, time)
	if ok || len(z) != 0 {
		t.Errorf("BatchesAsOf %v: %s = %v, %v", time, what, z, ok)
	}
}

// randomFrontier has times of the same range as those of randomTrace, and times behind it. It may be empty.
func randomFrontier(r *rand.Rand) []impl.Time {
	var times []impl.Time
	for range r.IntN(4) {
		times = append(times, at(between(r, 0, 5), between(r, 0, 5)))
	}
	return impl.MinimalTimes(times)
}

// laterFrontier moves an element of a frontier to a later time, to two of them, or to none.
func laterFrontier(r *rand.Rand, f []impl.Time) []impl.Time {
	if len(f) == 0 {
		return nil
	}
	i := r.IntN(len(f))
	times := slices.Delete(slices.Clone(f), i, i+1)
	if r.IntN(4) > 0 {
		times = append(times, at(f[i].Epoch+between(r, 1, 2), f[i].Round))
	}
	if r.IntN(4) > 0 {
		times = append(times, at(f[i].Epoch, f[i].Round+between(r, 1, 2)))
	}
	return impl.MinimalTimes(times)
}

// randomChain returns frontiers each of which is at most the next one. Some are equal, and the last ones may be empty.
func randomChain(r *rand.Rand, n int) [][]impl.Time {
	chain := frontierList(frontier(at(0, 0)))
	if r.IntN(3) == 0 {
		chain = frontierList(randomFrontier(r))
	}
	for len(chain) < n {
		next := chain[len(chain)-1]
		switch r.IntN(8) {
		case 0:
		case 1:
			next = impl.FrontierJoin(next, randomFrontier(r))
		default:
			next = laterFrontier(r, next)
		}
		chain = append(chain, next)
	}
	return chain
}

// splitCase is a trace whose times are between the first and the last of some frontiers in ascending order.
type splitCase struct {
	trace     []impl.Update
	frontiers [][]impl.Time
}

func (c splitCase) String() string {
	return fmt.Sprintf("trace %v, frontiers %v", c.trace, c.frontiers)
}

// batches is the reference for SplitTrace.
func (c splitCase) batches() []impl.Batch {
	var list []impl.Batch
	for i, upper := range c.frontiers[1:] {
		list = append(list, batch(c.frontiers[i], upper, updatesBetween(c.trace, c.frontiers[i], upper)...))
	}
	return list
}

func randomSplitCase(r *rand.Rand) splitCase {
	chain := randomChain(r, between(r, 1, impl.MaxBatches+1))
	tr := randomTrace(r, between(r, 1, 3))
	return splitCase{updatesBetween(tr, chain[0], chain[len(chain)-1]), chain}
}

func TestP84BatchesDivideATrace(t *testing.T) {
	r := newRandom()
	filled := 0
	for range 3000 {
		c := randomSplitCase(r)
		list, ok := impl.SplitTrace(c.trace, c.frontiers)
		expectBatches(t, fmt.Sprint("SplitTrace: ", c), list, ok, c.batches())
		var together []impl.Update
		for i, b := range list {
			expectBool(t, fmt.Sprintf("ValidBatch of the batch %d of %v", i, c), impl.ValidBatch(b), true)
			if i > 0 && !slices.Equal(list[i-1].Upper, b.Lower) {
				t.Errorf("the batch %d of %v does not begin where the one before ends", i, c)
			}
			if len(b.Updates) > 0 {
				filled++
			}
			together = append(together, b.Updates...)
		}
		slices.SortFunc(together, compareUpdates)
		expectTrace(t, fmt.Sprint("the updates of ", c), together, c.trace)
	}
	if filled < 2000 {
		t.Errorf("only %d batches have updates", filled)
	}
}

func TestP84EveryChainOfSmallFrontiers(t *testing.T) {
	times := grid(0, 1)
	frontiers := frontiersOf(times)
	whole := moved(zset(entry(2, 7)), at(0, 0))
	for _, time := range times[1:] {
		whole = append(whole, moved(zset(entry(2, 7)), time)...)
	}
	for bits := range 1 << len(times) {
		tr := slices.DeleteFunc(slices.Clone(whole), func(u impl.Update) bool { return bits>>(2*u.Time.Epoch+u.Time.Round)&1 == 0 })
		for _, f := range frontiers {
			for _, g := range frontiers {
				for _, h := range frontiers {
					c := splitCase{tr, frontierList(f, g, h)}
					if isAtMost(f, g) && isAtMost(g, h) && isBatchByDefinition(batch(f, h, tr...)) {
						list, ok := impl.SplitTrace(tr, c.frontiers)
						expectBatches(t, fmt.Sprint("SplitTrace: ", c), list, ok, c.batches())
					} else {
						expectNotSplit(t, c.String(), tr, c.frontiers)
					}
				}
			}
		}
	}
}

func TestP84GivenSplits(t *testing.T) {
	early, late, last := update(1, at(0, 3), 1, 2), update(-2, at(2, 0), 1, 2), update(5, at(impl.MaxTime, impl.MaxTime), 2, 2)
	tr := updates(early, late, last)
	least := frontier(at(0, 0))
	bent := frontier(at(0, 4), at(1, 0))
	list, ok := impl.SplitTrace(tr, frontierList(least, bent, nil))
	expectBatches(t, "SplitTrace with an empty last frontier", list, ok, batchList(batch(least, bent, early), batch(bent, nil, late, last)))
	list, ok = impl.SplitTrace(tr, frontierList(least, nil))
	expectBatches(t, "SplitTrace between two", list, ok, batchList(batch(least, nil, early, late, last)))
	list, ok = impl.SplitTrace(tr, frontierList(least, least, nil, nil))
	expectBatches(t, "SplitTrace between the same", list, ok, batchList(batch(least, least), batch(least, nil, early, late, last), batch(nil, nil)))
	exact := frontier(at(0, 3), at(2, 0))
	list, ok = impl.SplitTrace(tr, frontierList(exact, nil))
	expectBatches(t, "SplitTrace from the least times", list, ok, batchList(batch(exact, nil, early, late, last)))
	expectNotSplit(t, "a time is not covered", tr, frontierList(bent, nil))
	expectNotSplit(t, "the last time is covered", tr, frontierList(least, frontier(at(impl.MaxTime, impl.MaxTime))))
	expectNotSplit(t, "some frontier is later than the next one", tr, frontierList(least, bent, least, nil))
	expectNotSplit(t, "the empty frontier is not the last one", tr, frontierList(least, nil, bent))
	expectNotSplit(t, "frontiers that are not comparable", nil, frontierList(frontier(at(0, 1)), frontier(at(1, 0))))
}

func TestP84LimitsOfFrontiers(t *testing.T) {
	if impl.MaxBatches != 8 {
		t.Errorf("MaxBatches = %d", impl.MaxBatches)
	}
	for count := range impl.MaxBatches + 5 {
		for _, f := range [][]impl.Time{nil, frontier(at(0, 0)), frontier(at(1, 2), at(3, 0))} {
			c := splitCase{nil, slices.Repeat(frontierList(f), count)}
			what := fmt.Sprintf("%d times the frontier %v", count, f)
			if count < 1 || count > 9 {
				expectNotSplit(t, what, nil, c.frontiers)
				continue
			}
			list, ok := impl.SplitTrace(nil, c.frontiers)
			expectBatches(t, "SplitTrace: "+what, list, ok, slices.Repeat(batchList(batch(f, f)), count-1))
			expectNotSplit(t, what+" with an update", updates(update(1, at(5, 5), 1)), c.frontiers)
		}
	}
	longest := longestFrontier()
	list, ok := impl.SplitTrace(nil, frontierList(longest, longest, nil))
	expectBatches(t, "SplitTrace with the longest frontier", list, ok, batchList(batch(longest, longest), batch(longest, nil)))
	most := moved(numbered(1, impl.MaxUpdates, 1), at(1, 1))
	list, ok = impl.SplitTrace(most, frontierList(frontier(at(0, 0)), frontier(at(1, 0)), nil))
	expectBatches(t, "SplitTrace of the most updates", list, ok, batchList(batch(frontier(at(0, 0)), frontier(at(1, 0))), batch(frontier(at(1, 0)), nil, most...)))
}

func TestP84InvalidArguments(t *testing.T) {
	least := frontier(at(0, 0))
	for name, tr := range invalidTraces() {
		expectNotSplit(t, name, tr, frontierList(least, nil))
		expectNotSplit(t, name+", one frontier", tr, frontierList(least))
		expectNotSplit(t, name+", an empty frontier", tr, frontierList(nil))
	}
	for name, f := range invalidFrontiers() {
		expectNotSplit(t, "the only one: "+name, nil, frontierList(f))
		expectNotSplit(t, "first: "+name, nil, frontierList(f, nil))
		expectNotSplit(t, "in the middle: "+name, nil, frontierList(least, f, nil))
		expectNotSplit(t, "last: "+name, nil, frontierList(least, f))
		expectNotSplit(t, "twice: "+name, nil, frontierList(f, f))
	}
}

func TestP84ValidBatchIsTheDefinition(t *testing.T) {
	times := grid(0, 2)
	for _, lower := range frontiersOf(times) {
		for _, upper := range frontiersOf(times) {
			empty := batch(lower, upper)
			expectBool(t, fmt.Sprint("ValidBatch ", empty), impl.ValidBatch(empty), isAtMost(lower, upper))
			for _, time := range times {
				b := batch(lower, upper, update(1, time, 4))
				expectBool(t, fmt.Sprint("ValidBatch ", b), impl.ValidBatch(b), isBatchByDefinition(b))
				b.Updates = append(b.Updates, update(-1, at(2, 2), 5))
				expectBool(t, fmt.Sprint("ValidBatch ", b), impl.ValidBatch(b), isBatchByDefinition(b))
			}
		}
	}
	expectBool(t, "ValidBatch of the zero batch", impl.ValidBatch(impl.Batch{}), true)
	longest := longestFrontier()
	expectBool(t, "ValidBatch of the longest frontiers", impl.ValidBatch(batch(longest, longest)), true)
	most := moved(numbered(1, impl.MaxUpdates, 1), at(impl.MaxTime, impl.MaxTime))
	expectBool(t, "ValidBatch of the most updates", impl.ValidBatch(batch(longest, nil, most...)), true)
}

// invalidBatches has a batch for each way not to be one.
func invalidBatches() map[string]impl.Batch {
	least, later, one := frontier(at(0, 0)), frontier(at(1, 1)), update(1, at(0, 0), 2)
	list := map[string]impl.Batch{
		"bounds exchanged":           batch(later, least),
		"bounds not comparable":      batch(frontier(at(0, 1)), frontier(at(1, 0))),
		"no lower bound":             batch(nil, later),
		"no bounds, but updates":     batch(nil, nil, one),
		"an update too early":        batch(later, nil, one),
		"an update beside":           batch(later, nil, update(1, at(2, 0), 2)),
		"an update too late":         batch(least, later, update(1, at(1, 1), 2)),
		"an update far too late":     batch(least, later, one, update(1, at(4, 4), 3)),
		"the same bounds, an update": batch(least, least, one),
	}
	for name, f := range invalidFrontiers() {
		list["lower: "+name] = batch(f, nil)
		list["upper: "+name] = batch(least, f)
		list["both: "+name] = batch(f, f)
	}
	for name, tr := range invalidTraces() {
		list["updates: "+name] = batch(least, nil, tr...)
	}
	return list
}

func TestP84InvalidBatches(t *testing.T) {
	for name, b := range invalidBatches() {
		expectBool(t, "ValidBatch: "+name, impl.ValidBatch(b), false)
	}
}

// randomBatches returns adjacent batches.
func randomBatches(r *rand.Rand, least int) []impl.Batch {
	for {
		if list := randomSplitCase(r).batches(); len(list) >= least {
			return list
		}
	}
}

func TestP85MergingInvertsSplitting(t *testing.T) {
	r := newRandom()
	both := 0
	for range 3000 {
		list := randomBatches(r, 2)
		i := between(r, 1, len(list)-1)
		a, b := list[i-1], list[i]
		what := fmt.Sprintf("(%v, %v)", a, b)
		merged, ok := impl.MergeBatches(a, b)
		if !ok || !impl.ValidBatch(merged) {
			t.Errorf("MergeBatches%s = %v, %v", what, merged, ok)
		}
		expectMerged(t, what, a, b, batch(a.Lower, b.Upper, consolidated(slices.Concat(a.Updates, b.Updates))...))
		parts, ok := impl.SplitTrace(merged.Updates, frontierList(a.Lower, a.Upper, b.Upper))
		expectBatches(t, "SplitTrace of MergeBatches"+what, parts, ok, batchList(a, b))
		if len(a.Updates) > 0 && len(b.Updates) > 0 {
			both++
		}
	}
	if both < 300 {
		t.Errorf("only %d pairs of batches have updates in both", both)
	}
}

func TestP85GivenMerges(t *testing.T) {
	least, middle, later := frontier(at(0, 0)), frontier(at(0, 3), at(2, 1)), frontier(at(0, 4), at(3, 2))
	a := batch(least, middle, update(1, at(0, 0), 2, 1), update(-2, at(1, 2), 5, 5))
	b := batch(middle, later, update(4, at(0, 3), 1, 9), update(-1, at(2, 1), 2, 1), update(2, at(3, 1), 5, 5))
	want := updates(update(4, at(0, 3), 1, 9), update(1, at(0, 0), 2, 1), update(-1, at(2, 1), 2, 1), update(-2, at(1, 2), 5, 5), update(2, at(3, 1), 5, 5))
	expectMerged(t, "updates of the same rows", a, b, batch(least, later, want...))
	expectNotMerged(t, "the other way round", b, a)
	expectNotMerged(t, "a batch with itself", a, a)
	upToAll := batch(middle, nil, b.Updates...)
	expectMerged(t, "an empty upper bound", a, upToAll, batch(least, nil, want...))
	expectMerged(t, "empty bounds between them", upToAll, batch(nil, nil), upToAll)
	expectMerged(t, "the zero batches", impl.Batch{}, impl.Batch{}, impl.Batch{})
	expectNotMerged(t, "an empty upper bound before another one", batch(least, nil), batch(middle, nil))
	expectNotMerged(t, "bounds with a gap", a, batch(later, nil))
	expectNotMerged(t, "bounds that overlap", a, batch(least, nil))
	expectNotMerged(t, "bounds of which one is longer", a, batch(append(slices.Clone(middle), at(4, 0)), nil))
	expectNotMerged(t, "bounds of which one is shorter", a, batch(middle[:1], nil))
	expectNotMerged(t, "widths differ", a, batch(middle, later, update(4, at(0, 3), 9)))
	expectMerged(t, "widths differ, but one has no updates", batch(least, middle), b, batch(least, later, b.Updates...))
}

func TestP85MergeBatchesLimitsTheUpdates(t *testing.T) {
	least, middle := frontier(at(0, 0)), frontier(at(1, 1))
	for _, count := range []int{0, 1, 200, impl.MaxUpdates - 1, impl.MaxUpdates} {
		a := batch(least, middle, moved(numbered(1, count, 1), at(0, 1))...)
		rest := moved(numbered(1, impl.MaxUpdates-count, 1), at(1, 1))
		b := batch(middle, nil, rest...)
		what := fmt.Sprintf("%d and %d updates", count, len(rest))
		expectMerged(t, what, a, b, batch(least, nil, consolidated(slices.Concat(a.Updates, rest))...))
		if len(rest) < impl.MaxUpdates {
			b.Updates = moved(numbered(1, len(rest)+1, 1), at(1, 1))
			expectNotMerged(t, what+" and one more", a, b)
			expectNotRead(t, what+" and one more", batchList(a, b), at(5, 5))
		}
	}
}

func TestP85InvalidBatches(t *testing.T) {
	for name, b := range invalidBatches() {
		expectNotMerged(t, "first: "+name, b, batch(b.Upper, b.Upper))
		expectNotMerged(t, "first, with everything behind it: "+name, b, batch(b.Upper, nil))
		expectNotMerged(t, "last: "+name, batch(b.Lower, b.Lower), b)
		expectNotMerged(t, "last, with everything before it: "+name, batch(frontier(at(0, 0)), b.Lower), b)
		expectNotMerged(t, "both: "+name, b, b)
	}
}

func TestP86EmptyBatchesChangeNothing(t *testing.T) {
	r := newRandom()
	for range 1000 {
		for _, b := range randomBatches(r, 1) {
			expectMerged(t, "an empty batch behind", b, batch(b.Upper, b.Upper), b)
			expectMerged(t, "an empty batch before", batch(b.Lower, b.Lower), b, b)
		}
	}
	times := grid(0, 2)
	for _, f := range frontiersOf(times) {
		for _, g := range frontiersOf(times) {
			if isAtMost(f, g) {
				expectMerged(t, "an empty batch behind an empty one", batch(f, g), batch(g, g), batch(f, g))
			}
		}
	}
}

func TestP87SeekingFindsExactlyTheRows(t *testing.T) {
	r := newRandom()
	found := 0
	for range 1000 {
		for _, b := range randomBatches(r, 1) {
			expectTrace(t, fmt.Sprint("SeekRows without values: ", b), impl.SeekRows(b, nil), b.Updates)
			expectTrace(t, fmt.Sprint("SeekRows of no values: ", b), impl.SeekRows(b, []int{}), b.Updates)
			for length := 1; length <= 4; length++ {
				prefix := randomList(r, length, 1)
				var want []impl.Update
				for _, u := range b.Updates {
					if len(u.Row) >= length && slices.Equal(u.Row[:length], prefix) {
						want = append(want, u)
					}
				}
				expectTrace(t, fmt.Sprintf("SeekRows(%v, %v)", b, prefix), impl.SeekRows(b, prefix), want)
				found += len(want)
			}
		}
	}
	if found < 1000 {
		t.Errorf("only %d updates found", found)
	}
}

func TestP87GivenRows(t *testing.T) {
	list := updates(update(1, at(0, 0), -1, 5), update(2, at(0, 0), 1, -5), update(3, at(0, 0), 1, 5), update(4, at(0, 1), 1, 5), update(5, at(2, 0), 1, 6), update(6, at(0, 0), 5, 1))
	b := batch(frontier(at(0, 0)), nil, list...)
	cases := []struct {
		prefix []int
		want   []impl.Update
	}{
		{nil, list},
		{[]int{1}, list[1:5]},
		{[]int{-1}, list[:1]},
		{[]int{5}, list[5:]},
		{[]int{1, 5}, list[2:4]},
		{[]int{1, 6}, list[4:5]},
		{[]int{0}, nil},
		{[]int{1, 0}, nil},
		{[]int{1, 7}, nil},
		{[]int{1, 5, 0}, nil},
		{[]int{1, 5, 5}, nil},
		{repeated(impl.MaxWidth+3, 1), nil},
		{[]int{impl.MaxValue + 1}, nil},
	}
	for _, c := range cases {
		expectTrace(t, fmt.Sprint("SeekRows ", c.prefix), impl.SeekRows(b, c.prefix), c.want)
	}
	for name, invalid := range invalidBatches() {
		for _, prefix := range [][]int{nil, {1}, {2}} {
			expectTrace(t, "SeekRows: "+name, impl.SeekRows(invalid, prefix), nil)
		}
	}
}

func TestP88BatchesCanBeReadLikeATrace(t *testing.T) {
	r := newRandom()
	read, late := 0, 0
	for range 1000 {
		list := randomBatches(r, 1)
		from := r.IntN(len(list))
		list = list[from : from+between(r, 1, len(list)-from)]
		var all []impl.Update
		for _, b := range list {
			all = append(all, b.Updates...)
		}
		for _, time := range append(grid(0, 5), at(0, impl.MaxTime), at(impl.MaxTime, 0), at(impl.MaxTime, impl.MaxTime)) {
			what := fmt.Sprintf("%v at %v", list, time)
			if covered(list[len(list)-1].Upper, time) {
				expectNotRead(t, what, list, time)
				late++
				continue
			}
			expectRead(t, what, list, time, accumulated(all, time))
			expectZSet(t, "AsOf: "+what, impl.AsOf(impl.Consolidate(all), time), accumulated(all, time))
			read++
		}
	}
	if read < 5000 || late < 5000 {
		t.Errorf("%d times can be read, %d cannot", read, late)
	}
}

func TestP88GivenReads(t *testing.T) {
	least, middle, later := frontier(at(0, 0)), frontier(at(1, 0)), frontier(at(2, 0))
	a := batch(least, middle, update(1, at(0, 0), 1), update(2, at(0, 4), 2))
	b := batch(middle, later, update(-1, at(1, 0), 1), update(3, at(1, 2), 2))
	rest := batch(later, nil, update(7, at(3, 3), 3))
	all := batchList(a, b, rest)
	expectRead(t, "the first time", all, at(0, 0), zset(entry(1, 1)))
	expectRead(t, "a row disappears", all, at(1, 0), nil)
	expectRead(t, "weights add up", all, at(1, 4), zset(entry(5, 2)))
	expectRead(t, "an empty last upper bound", all, at(impl.MaxTime, impl.MaxTime), zset(entry(5, 2), entry(7, 3)))
	expectRead(t, "the first batch only", batchList(a), at(0, impl.MaxTime), zset(entry(1, 1), entry(2, 2)))
	expectNotRead(t, "the time is not complete", batchList(a), at(1, 0))
	expectNotRead(t, "the time is not complete after two", batchList(a, b), at(2, 1))
	expectRead(t, "the second batch only", batchList(b), at(1, 2), zset(entry(-1, 1), entry(3, 2)))
	expectRead(t, "a time before the first batch", batchList(b), at(0, 9), nil)
	expectNotRead(t, "batches exchanged", batchList(b, a), at(0, 0))
	expectNotRead(t, "a batch is left out", batchList(a, rest), at(0, 0))
	expectNotRead(t, "a batch twice", batchList(a, b, b), at(0, 0))
	expectNotRead(t, "widths differ", batchList(a, batch(middle, later, update(1, at(1, 1), 1, 1))), at(0, 0))
	expectNotRead(t, "widths differ at last", batchList(a, b, batch(later, nil, update(1, at(3, 1), 1, 1))), at(0, 0))
	expectNotRead(t, "no batches", nil, at(0, 0))
	expectRead(t, "the zero batch", batchList(impl.Batch{}), at(0, 0), nil)
	large := batch(least, nil, update(impl.MaxWeight, at(0, 0), 1), update(1, at(0, 1), 1))
	expectRead(t, "the largest weight", batchList(large), at(5, 0), zset(entry(impl.MaxWeight, 1)))
	expectRead(t, "a weight too large", batchList(large), at(5, 1), nil)
}

func TestP88LimitsOfBatches(t *testing.T) {
	for count := range impl.MaxBatches + 4 {
		var list []impl.Batch
		var want []impl.Entry
		for epoch := range count {
			list = append(list, batch(frontier(at(epoch, 0)), frontier(at(epoch+1, 0)), update(1, at(epoch, 0), epoch)))
			want = append(want, entry(1, epoch))
		}
		what := fmt.Sprintf("%d batches", count)
		if count < 1 || count > 8 {
			expectNotRead(t, what, list, at(0, 0))
			continue
		}
		expectRead(t, what, list, at(count-1, impl.MaxTime), want)
		expectNotRead(t, what, list, at(count, 0))
	}
	for _, more := range []int{0, 1} {
		var list []impl.Batch
		for epoch := range 4 {
			list = append(list, batch(frontier(at(epoch, 0)), frontier(at(epoch+1, 0)), moved(numbered(1, 100, 1), at(epoch, 0))...))
		}
		list[2].Updates = moved(numbered(1, 100+more, 1), at(2, 0))
		if more == 0 {
			expectRead(t, "the most updates", list, at(1, 1), numbered(1, 100, 2))
		} else {
			expectNotRead(t, "too many updates", list, at(1, 1))
		}
	}
}

func TestP88InvalidArguments(t *testing.T) {
	least := frontier(at(0, 0))
	for name, b := range invalidBatches() {
		for _, time := range []impl.Time{at(0, 0), at(5, 5)} {
			expectNotRead(t, name, batchList(b), time)
			expectNotRead(t, "first: "+name, batchList(b, batch(b.Upper, b.Upper)), time)
			expectNotRead(t, "last: "+name, batchList(batch(b.Lower, b.Lower), b), time)
			expectNotRead(t, "in the middle: "+name, batchList(batch(least, b.Lower), b, batch(b.Upper, nil)), time)
		}
	}
	for _, time := range invalidTimes() {
		expectNotRead(t, "an invalid time", batchList(batch(least, nil, update(1, at(0, 0), 1))), time)
		expectNotRead(t, "an invalid time of empty batches", batchList(impl.Batch{}, impl.Batch{}), time)
	}
}

func TestP89MergingBatchesDoesNotChangeWhatIsRead(t *testing.T) {
	r := newRandom()
	read := 0
	for range 500 {
		list := randomBatches(r, 2)
		if r.IntN(10) == 0 {
			// The last batch is not valid then, or not adjacent to the one before.
			list[len(list)-1].Lower = randomFrontier(r)
		}
		merged, ok := impl.MergeBatches(list[0], list[1])
		if !ok {
			continue
		}
		fewer := append(batchList(merged), list[2:]...)
		for _, time := range grid(0, 5) {
			want, isRead := impl.BatchesAsOf(list, time)
			got, ok := impl.BatchesAsOf(fewer, time)
			if ok != isRead || !sameZSet(got, want) {
				t.Errorf("BatchesAsOf(%v, %v) = %v, %v, but %v, %v after merging", list, time, want, isRead, got, ok)
			}
			if len(got) > 0 {
				read++
			}
		}
	}
	if read < 2000 {
		t.Errorf("only %d reads have entries", read)
	}
}

func TestBatchFunctionsReturnNewMemory(t *testing.T) {
	least, middle, later := frontier(at(0, 0)), frontier(at(0, 3), at(2, 1)), frontier(at(0, 4), at(3, 2))
	a := batch(least, middle, update(1, at(0, 0), 2, 1), update(-2, at(1, 2), 5, 5))
	b := batch(middle, later, update(4, at(0, 3), 1, 9), update(-1, at(2, 1), 2, 1))
	whole, _ := impl.MergeBatches(a, b)
	expectFresh(t, "SplitTrace", impl.SplitTrace, whole.Updates, frontierList(least, middle, middle, later))
	expectFresh(t, "MergeBatches", impl.MergeBatches, a, b)
	expectFresh(t, "MergeBatches with an empty batch", impl.MergeBatches, a, batch(middle, middle))
	expectFresh(t, "MergeBatches of empty batches", impl.MergeBatches, batch(middle, middle), batch(middle, middle))
	expectFresh(t, "SeekRows", impl.SeekRows, whole, []int{2})
	expectFresh(t, "SeekRows without values", impl.SeekRows, whole, nil)
	expectFresh(t, "BatchesAsOf", impl.BatchesAsOf, batchList(a, b), at(2, 3))
	expectFresh(t, "BatchesAsOf of one batch", impl.BatchesAsOf, batchList(a), at(1, 2))
}
