package tests

import (
	"cmp"
	"fmt"
	"math"
	"slices"
	"testing"

	"loop.example/dataflow/impl"
)

func TestLimitsOfTraces(t *testing.T) {
	if impl.MaxUpdates != 400 {
		t.Errorf("MaxUpdates = %d", impl.MaxUpdates)
	}
	last := at(impl.MaxTime, impl.MaxTime)
	valid := map[string][]impl.Update{
		"nil":               nil,
		"empty":             {},
		"one update":        updates(update(1, at(0, 0), 1)),
		"the most updates":  moved(numbered(1, impl.MaxUpdates, 1), last),
		"extreme weights":   updates(update(impl.MaxWeight, at(0, 0), 1), update(-impl.MaxWeight, last, 1)),
		"the widest row":    updates(update(1, at(0, impl.MaxTime), repeated(impl.MaxWidth, impl.MaxValue)...)),
		"rounds ascend":     updates(update(1, at(1, 0), 1), update(1, at(1, 1), 1)),
		"epochs ascend":     updates(update(1, at(1, 9), 1), update(1, at(2, 0), 1)),
		"rows before times": updates(update(-2, at(5, 5), -1, 9), update(3, at(0, 0), 0, 0), update(3, at(0, 0), 0, 1)),
	}
	for name, tr := range valid {
		expectBool(t, "ValidTrace: "+name, impl.ValidTrace(tr), true)
	}
	for name, tr := range invalidTraces() {
		expectBool(t, "ValidTrace: "+name, impl.ValidTrace(tr), false)
	}
}

func TestInvalidTracesHaveFixedResults(t *testing.T) {
	last := at(impl.MaxTime, impl.MaxTime)
	for name, tr := range invalidTraces() {
		expectZSet(t, "AsOf: "+name, impl.AsOf(tr, last), nil)
		expectTrace(t, "CompactTrace: "+name, impl.CompactTrace(tr, []impl.Time{at(3, 3)}), nil)
		expectTrace(t, "CompactTrace to nothing: "+name, impl.CompactTrace(tr, nil), nil)
		expectTimes(t, "TraceTimes: "+name, impl.TraceTimes(tr), nil)
	}
}

func TestP19ATraceIsItsOwnNormalForm(t *testing.T) {
	r := newRandom()
	for range 300 {
		tr := randomTrace(r, between(r, 1, 3))
		expectTrace(t, "Consolidate of a trace", impl.Consolidate(tr), tr)
		list := randomUpdates(r, r.IntN(60), between(r, 1, 2))
		sums := impl.Consolidate(list)
		expectBool(t, "ValidTrace of Consolidate", impl.ValidTrace(sums), true)
		expectTrace(t, "Consolidate", sums, consolidated(list))
		slices.Reverse(list)
		expectTrace(t, "Consolidate of the reversed list", impl.Consolidate(list), sums)
		r.Shuffle(len(list), func(i int, j int) { list[i], list[j] = list[j], list[i] })
		expectTrace(t, "Consolidate of a shuffled list", impl.Consolidate(list), sums)
	}
}

func TestP19ConsolidateAtItsEdges(t *testing.T) {
	big := impl.MaxWeight
	first, second := at(0, 7), at(7, 0)
	cases := []struct {
		name string
		list []impl.Update
		want []impl.Update
	}{
		{"nothing", nil, nil},
		{"all cancel", updates(update(2, first, 1), update(-2, first, 1)), nil},
		{"weight 0", updates(update(0, first, 1)), nil},
		{"other times do not cancel", updates(update(2, second, 1), update(-2, first, 1)), updates(update(-2, first, 1), update(2, second, 1))},
		{"a sum that is 0 on the way", updates(update(1, first, 1), update(-1, first, 1), update(2, first, 1)), updates(update(2, first, 1))},
		{"another width cancels", updates(update(2, first, 1), update(3, first, 1, 2), update(-2, first, 1)), updates(update(3, first, 1, 2))},
		{"another width has the weight 0", updates(update(0, first, 1), update(3, first, 1, 2)), updates(update(3, first, 1, 2))},
		{"widths differ", updates(update(2, first, 1), update(3, first, 1, 2)), nil},
		{"widths differ at other times", updates(update(2, first, 1), update(3, second, 1, 2)), nil},
		{"the largest sum", updates(update(big-1, first, 1), update(1, first, 1)), updates(update(big, first, 1))},
		{"the smallest sum", updates(update(1-big, first, 1), update(-1, first, 1)), updates(update(-big, first, 1))},
		{"a sum too large", updates(update(big, first, 1), update(1, first, 1), update(1, first, 2)), nil},
		{"a sum too small", updates(update(1, first, 2), update(-big, first, 1), update(-1, first, 1)), nil},
		{"the sum of two times may be large", updates(update(big, first, 1), update(big, second, 1)), updates(update(big, first, 1), update(big, second, 1))},
		{"a sum too large on the way", updates(update(big, first, 1), update(big, first, 1), update(-big, first, 1)), updates(update(big, first, 1))},
		{"rows sort before times", updates(update(1, first, 2), update(1, second, 1)), updates(update(1, second, 1), update(1, first, 2))},
		{"epochs sort before rounds", updates(update(1, second, 1), update(1, at(0, 8), 1), update(1, first, 1)), updates(update(1, first, 1), update(1, at(0, 8), 1), update(1, second, 1))},
	}
	for _, c := range cases {
		expectTrace(t, "Consolidate: "+c.name, impl.Consolidate(c.list), c.want)
		slices.Reverse(c.list)
		expectTrace(t, "Consolidate reversed: "+c.name, impl.Consolidate(c.list), c.want)
	}
	for name, u := range invalidUpdates() {
		opposite := update(-u.Weight, u.Time, u.Row...)
		expectTrace(t, "Consolidate: "+name, impl.Consolidate(updates(update(1, first, 3), u)), nil)
		expectTrace(t, "Consolidate, cancelled: "+name, impl.Consolidate(updates(u, update(1, first, 3), opposite)), nil)
	}
}

func TestP19ConsolidateLimitsTheUpdates(t *testing.T) {
	most := slices.Repeat(updates(update(1, at(1, 1), 1)), impl.MaxUpdates)
	expectTrace(t, "Consolidate of the most updates", impl.Consolidate(most), updates(update(impl.MaxUpdates, at(1, 1), 1)))
	expectTrace(t, "Consolidate of one update more", impl.Consolidate(append(most, most[0])), nil)
	zeros := slices.Repeat(updates(update(0, at(1, 1), 1)), impl.MaxUpdates+1)
	expectTrace(t, "Consolidate of too many weights 0", impl.Consolidate(append(zeros, most[0])), nil)
	different := moved(numbered(1, impl.MaxUpdates, 1), at(impl.MaxTime, 0))
	expectTrace(t, "Consolidate of different updates", impl.Consolidate(different), different)
}

func TestP20ACollectionAccumulatesItsUpdates(t *testing.T) {
	r := newRandom()
	for range 200 {
		tr := randomTrace(r, between(r, 1, 2))
		for _, time := range grid(0, 4) {
			z := impl.AsOf(tr, time)
			expectZSet(t, fmt.Sprintf("AsOf(%v, %v)", tr, time), z, accumulated(tr, time))
			for _, u := range tr {
				sum := 0
				for _, other := range tr {
					if slices.Equal(other.Row, u.Row) && impl.TimeLessEqual(other.Time, time) {
						sum += other.Weight
					}
				}
				if weight := impl.WeightOf(z, u.Row); weight != sum {
					t.Errorf("WeightOf %v in AsOf(%v, %v) = %d", u.Row, tr, time, weight)
				}
			}
		}
	}
}

func TestP20AsOfAtItsEdges(t *testing.T) {
	big := impl.MaxWeight
	last := at(impl.MaxTime, impl.MaxTime)
	tr := updates(update(big, at(0, 1), 1), update(1, at(1, 0), 1), update(-2, at(1, 1), 1), update(5, at(0, 0), 2))
	expectZSet(t, "AsOf before a row", impl.AsOf(tr, at(0, 0)), zset(entry(5, 2)))
	expectZSet(t, "AsOf with the largest weight", impl.AsOf(tr, at(0, 9)), zset(entry(big, 1), entry(5, 2)))
	expectZSet(t, "AsOf of a time that is not comparable", impl.AsOf(tr, at(9, 0)), zset(entry(1, 1), entry(5, 2)))
	expectZSet(t, "AsOf where a sum is too large on the way", impl.AsOf(tr, last), zset(entry(big-1, 1), entry(5, 2)))
	expectZSet(t, "AsOf with a weight too large", impl.AsOf(updates(update(big, at(0, 1), 1), update(1, at(1, 0), 1), update(1, at(0, 0), 2)), last), nil)
	expectZSet(t, "AsOf with a weight too small", impl.AsOf(updates(update(-big, at(0, 1), 1), update(-1, at(1, 0), 1), update(1, at(0, 0), 2)), last), nil)
	expectZSet(t, "AsOf where all cancel", impl.AsOf(updates(update(2, at(0, 1), 1), update(-2, at(1, 0), 1)), last), nil)
	expectZSet(t, "AsOf of nothing", impl.AsOf(nil, last), nil)
	most := numbered(1, impl.MaxEntries, 1)
	expectZSet(t, "AsOf of the most updates", impl.AsOf(moved(most, last), last), most)
	for _, invalid := range invalidTimes() {
		expectZSet(t, "AsOf of an invalid time", impl.AsOf(tr, invalid), nil)
	}
}

func TestP21CompactionPreservesWhatCanBeRead(t *testing.T) {
	r := newRandom()
	frontiers := frontiersOf(grid(0, 3))
	for range 40 {
		tr := randomTrace(r, 1)
		for _, f := range frontiers {
			compacted := impl.CompactTrace(tr, f)
			if !impl.ValidTrace(compacted) || len(compacted) > len(tr) {
				t.Fatalf("CompactTrace(%v, %v) = %v", tr, f, compacted)
			}
			var advanced []impl.Update
			for _, u := range tr {
				advanced = append(advanced, update(u.Weight, impl.AdvanceTime(u.Time, f), u.Row...))
			}
			expectTrace(t, "CompactTrace", compacted, consolidated(advanced))
			for _, time := range grid(0, 4) {
				if covered(f, time) {
					expectZSet(t, "AsOf after CompactTrace", impl.AsOf(compacted, time), impl.AsOf(tr, time))
				}
			}
		}
	}
}

func TestP21CompactTraceAtItsEdges(t *testing.T) {
	big := impl.MaxWeight
	tr := updates(update(2, at(0, 3), 1), update(-2, at(3, 0), 1), update(4, at(0, 0), 2), update(1, at(5, 5), 2))
	expectTrace(t, "CompactTrace to no times", impl.CompactTrace(tr, nil), tr)
	expectTrace(t, "CompactTrace to the first time", impl.CompactTrace(tr, []impl.Time{{}}), tr)
	expectTrace(t, "CompactTrace where updates cancel", impl.CompactTrace(tr, []impl.Time{at(3, 3)}), updates(update(4, at(3, 3), 2), update(1, at(5, 5), 2)))
	expectTrace(t, "CompactTrace to two times", impl.CompactTrace(tr, []impl.Time{at(1, 4), at(4, 1)}),
		updates(update(2, at(1, 3), 1), update(-2, at(3, 1), 1), update(4, at(1, 1), 2), update(1, at(5, 5), 2)))
	expectTrace(t, "CompactTrace of nothing", impl.CompactTrace(nil, []impl.Time{at(3, 3)}), nil)
	large := updates(update(big, at(0, 1), 1), update(1, at(1, 0), 1), update(1, at(0, 0), 2))
	expectTrace(t, "CompactTrace where a sum is too large", impl.CompactTrace(large, []impl.Time{at(1, 1)}), nil)
	expectTrace(t, "CompactTrace where no sum is too large", impl.CompactTrace(large, []impl.Time{at(1, 0)}),
		updates(update(1, at(1, 0), 1), update(big, at(1, 1), 1), update(1, at(1, 0), 2)))
	most := moved(numbered(1, impl.MaxUpdates, 1), at(0, 0))
	expectTrace(t, "CompactTrace of the most updates", impl.CompactTrace(most, longestFrontier()), most)
	for name, f := range invalidFrontiers() {
		expectTrace(t, "CompactTrace: "+name, impl.CompactTrace(tr, f), nil)
	}
}

func TestP22DifferencesRestoreSnapshots(t *testing.T) {
	r := newRandom()
	for range 200 {
		width := between(r, 1, 3)
		var snapshots [][]impl.Entry
		for range r.IntN(6) {
			snapshots = append(snapshots, randomZSet(r, width))
		}
		tr := impl.TraceOf(snapshots)
		expectBool(t, "ValidTrace of TraceOf", impl.ValidTrace(tr), true)
		var want []impl.Update
		for epoch, snapshot := range snapshots {
			for round := range 3 {
				expectZSet(t, "AsOf of TraceOf", impl.AsOf(tr, at(epoch, round)), snapshot)
			}
			want = append(want, moved(snapshot, at(epoch, 0))...)
			if epoch > 0 {
				want = append(want, moved(impl.Negate(snapshots[epoch-1]), at(epoch, 0))...)
			}
		}
		expectTrace(t, "TraceOf", tr, consolidated(want))
		if len(snapshots) > 0 {
			expectZSet(t, "AsOf a later epoch", impl.AsOf(tr, at(50, 0)), snapshots[len(snapshots)-1])
		}
	}
}

func TestP22TraceOfAtItsEdges(t *testing.T) {
	big := impl.MaxWeight
	one, pair := zset(entry(1, 1)), zset(entry(1, 1, 2))
	cases := []struct {
		name      string
		snapshots [][]impl.Entry
		want      []impl.Update
	}{
		{"no snapshots", nil, nil},
		{"empty snapshots", [][]impl.Entry{nil, {}, nil}, nil},
		{"equal snapshots", [][]impl.Entry{one, one}, updates(update(1, at(0, 0), 1))},
		{"a snapshot that vanishes", [][]impl.Entry{nil, one, nil, one}, updates(update(1, at(1, 0), 1), update(-1, at(2, 0), 1), update(1, at(3, 0), 1))},
		{"another width after an empty one", [][]impl.Entry{one, nil, pair}, nil},
		// Add of both is empty, because it would not be a Z-set.
		{"another width", [][]impl.Entry{one, pair}, updates(update(1, at(0, 0), 1))},
		{"another width that stays", [][]impl.Entry{one, pair, zset(entry(3, 1, 2))}, nil},
		{"a difference out of range", [][]impl.Entry{zset(entry(big, 1)), zset(entry(-1, 1))}, updates(update(big, at(0, 0), 1))},
		{"the largest difference", [][]impl.Entry{zset(entry(-1, 1)), zset(entry(big-1, 1))}, updates(update(-1, at(0, 0), 1), update(big, at(1, 0), 1))},
	}
	for _, c := range cases {
		expectTrace(t, "TraceOf: "+c.name, impl.TraceOf(c.snapshots), c.want)
	}
	for name, z := range invalidZSets() {
		expectTrace(t, "TraceOf with a snapshot: "+name, impl.TraceOf([][]impl.Entry{one, z, one}), nil)
		expectTrace(t, "TraceOf with a first snapshot: "+name, impl.TraceOf([][]impl.Entry{z, one}), nil)
		expectTrace(t, "TraceOf with a last snapshot: "+name, impl.TraceOf([][]impl.Entry{one, z}), nil)
	}
}

func TestP22TraceOfLimits(t *testing.T) {
	one := zset(entry(1, 1))
	most := slices.Repeat([][]impl.Entry{nil}, impl.MaxTime+1)
	most[0], most[impl.MaxTime] = one, zset(entry(1, 1), entry(4, 2))
	most[1] = one
	tr := updates(update(1, at(0, 0), 1), update(-1, at(2, 0), 1), update(1, at(impl.MaxTime, 0), 1), update(4, at(impl.MaxTime, 0), 2))
	expectTrace(t, "TraceOf of the most snapshots", impl.TraceOf(most), tr)
	expectTrace(t, "TraceOf of one snapshot more", impl.TraceOf(append(most, most[impl.MaxTime])), nil)
	half := numbered(1, impl.MaxUpdates/2, 1)
	other := numbered(impl.MaxUpdates/2+1, impl.MaxUpdates, 1)
	all := slices.Concat(half, other)
	want := slices.Concat(moved(half, at(0, 0)), moved(other, at(1, 0)))
	expectTrace(t, "TraceOf with the most updates", impl.TraceOf([][]impl.Entry{half, all}), want)
	expectTrace(t, "TraceOf with one update more", impl.TraceOf([][]impl.Entry{half, all, all[1:]}), nil)
	expectTrace(t, "TraceOf with far too many updates", impl.TraceOf(slices.Repeat([][]impl.Entry{all, nil}, 50)), nil)
}

func TestP23EveryUpdateIsAtOneOfTheTimes(t *testing.T) {
	r := newRandom()
	for range 300 {
		tr := randomTrace(r, between(r, 1, 3))
		var want []impl.Time
		for _, time := range grid(0, 4) {
			if slices.ContainsFunc(tr, func(u impl.Update) bool { return u.Time == time }) {
				want = append(want, time)
			}
		}
		expectTimes(t, "TraceTimes", impl.TraceTimes(tr), want)
	}
}

func TestP23TraceTimesAtItsEdges(t *testing.T) {
	expectTimes(t, "TraceTimes of nothing", impl.TraceTimes(nil), nil)
	tr := updates(update(1, at(1, 0), 1), update(1, at(0, 9), 2), update(-1, at(1, 0), 2), update(1, at(0, 3), 3), update(1, at(99, 99), 3))
	expectTimes(t, "TraceTimes", impl.TraceTimes(tr), []impl.Time{at(0, 3), at(0, 9), at(1, 0), at(99, 99)})
	var most []impl.Update
	times := grid(0, 19)
	for _, time := range times {
		most = append(most, update(1, time, 1))
	}
	if len(most) != impl.MaxUpdates {
		t.Fatalf("%d updates", len(most))
	}
	expectTimes(t, "TraceTimes of the most updates", impl.TraceTimes(most), times)
	// All updates at one time, and the times of the trace in another order than its rows.
	same := moved(numbered(1, impl.MaxUpdates, 1), at(4, 4))
	expectTimes(t, "TraceTimes of equal times", impl.TraceTimes(same), []impl.Time{at(4, 4)})
	slices.SortFunc(times, func(a impl.Time, b impl.Time) int { return cmp.Compare(b.Round*100-b.Epoch, a.Round*100-a.Epoch) })
	for i := range most {
		most[i] = update(1, times[i], i)
	}
	expectTimes(t, "TraceTimes of another order", impl.TraceTimes(most), grid(0, 19))
	expectTimes(t, "TraceTimes of an invalid time", impl.TraceTimes(updates(update(1, at(math.MinInt, 0), 1))), nil)
}

func TestTraceFunctionsReturnNewMemory(t *testing.T) {
	tr := updates(update(2, at(0, 1), 1, 2), update(-2, at(1, 0), 1, 2), update(3, at(0, 0), 1, 3), update(4, at(2, 2), 5, 0))
	mixed := updates(tr[3], tr[1], tr[0], tr[2], tr[1], tr[3])
	snapshots := [][]impl.Entry{zset(entry(2, 1, 2), entry(3, 4, 5)), nil, zset(entry(5, 1, 2))}
	expectFresh(t, "Consolidate", impl.Consolidate, mixed)
	expectFresh(t, "Consolidate of a trace", impl.Consolidate, tr)
	expectFresh(t, "AsOf", impl.AsOf, tr, at(1, 1))
	expectFresh(t, "AsOf a time with few updates", impl.AsOf, tr, at(0, 1))
	expectFresh(t, "CompactTrace", impl.CompactTrace, tr, []impl.Time{at(0, 1), at(1, 0)})
	expectFresh(t, "CompactTrace to nothing", impl.CompactTrace, tr, nil)
	expectFresh(t, "TraceOf", impl.TraceOf, snapshots)
	expectFresh(t, "TraceTimes", impl.TraceTimes, tr)
}
