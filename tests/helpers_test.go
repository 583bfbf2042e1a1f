package tests

import (
	"cmp"
	"fmt"
	"maps"
	"math"
	"math/rand/v2"
	"slices"
	"testing"

	"loop.example/dataflow/impl"
)

// newRandom is seeded with a constant, so that a failure can be repeated.
func newRandom() *rand.Rand {
	return rand.New(rand.NewPCG(7, 11))
}

func between(r *rand.Rand, low int, high int) int {
	return low + r.IntN(high-low+1)
}

// repeated returns a list of n equal values.
func repeated(n int, value int) []int {
	return slices.Repeat([]int{value}, n)
}

func randomList(r *rand.Rand, length int, limit int) []int {
	list := make([]int, length)
	for i := range list {
		list[i] = between(r, -limit, limit)
	}
	return list
}

// randomEntries returns entries in any order, with repeated rows and with weights that may be 0.
func randomEntries(r *rand.Rand, n int, width int) []impl.Entry {
	entries := make([]impl.Entry, n)
	for i := range entries {
		entries[i] = entry(between(r, -3, 3), randomList(r, width, 2)...)
	}
	return entries
}

// randomZSet returns a small Z-set.
func randomZSet(r *rand.Rand, width int) []impl.Entry {
	return sumOf(randomEntries(r, r.IntN(13), width))
}

func entry(weight int, row ...int) impl.Entry {
	return impl.Entry{Row: row, Weight: weight}
}

func zset(entries ...impl.Entry) []impl.Entry {
	return entries
}

// numbered returns the Z-set of the rows with the one value low, low+1, .. high, all with one weight.
func numbered(low int, high int, weight int) []impl.Entry {
	var z []impl.Entry
	for value := low; value <= high; value++ {
		z = append(z, entry(weight, value))
	}
	return z
}

// sumOf is the reference for sums: it adds up the weights of all lists in a map.
func sumOf(lists ...[]impl.Entry) []impl.Entry {
	rows := map[string][]int{}
	weights := map[string]int{}
	for _, list := range lists {
		for _, e := range list {
			key := fmt.Sprint(e.Row)
			rows[key] = e.Row
			weights[key] += e.Weight
		}
	}
	maps.DeleteFunc(weights, func(_ string, weight int) bool { return weight == 0 })
	sum := []impl.Entry{}
	for key, weight := range weights {
		sum = append(sum, entry(weight, rows[key]...))
	}
	slices.SortFunc(sum, func(a impl.Entry, b impl.Entry) int { return slices.Compare(a.Row, b.Row) })
	return sum
}

func sameEntry(a impl.Entry, b impl.Entry) bool {
	return a.Weight == b.Weight && slices.Equal(a.Row, b.Row)
}

func sameZSet(a []impl.Entry, b []impl.Entry) bool {
	return slices.EqualFunc(a, b, sameEntry)
}

func expectZSet(t *testing.T, what string, got []impl.Entry, want []impl.Entry) {
	t.Helper()
	if !sameZSet(got, want) {
		t.Errorf("%s = %v, want %v", what, got, want)
	}
}

func expectTimes(t *testing.T, what string, got []impl.Time, want []impl.Time) {
	t.Helper()
	if !slices.Equal(got, want) {
		t.Errorf("%s = %v, want %v", what, got, want)
	}
}

func expectBool(t *testing.T, what string, got bool, want bool) {
	t.Helper()
	if got != want {
		t.Errorf("%s = %v, want %v", what, got, want)
	}
}

// invalidRows has a list for each way not to be a row.
func invalidRows() map[string][]int {
	return map[string][]int{
		"nil":                nil,
		"empty":              {},
		"too wide":           repeated(impl.MaxWidth+1, 1),
		"value too large":    {1, impl.MaxValue + 1},
		"value too small":    {-impl.MaxValue - 1, 1},
		"the largest value":  {math.MaxInt},
		"the smallest value": {1, math.MinInt},
	}
}

// invalidZSets has a list for each way not to be a Z-set. Apart from this all could be sets.
func invalidZSets() map[string][]impl.Entry {
	lists := map[string][]impl.Entry{
		"too many entries":       numbered(1, impl.MaxEntries+1, 1),
		"rows descend":           zset(entry(1, 2), entry(1, 1)),
		"rows descend at last":   zset(entry(1, 1, 5), entry(1, 2, 5), entry(1, 2, 4)),
		"a row twice":            zset(entry(1, 1), entry(1, 1)),
		"widths differ":          zset(entry(1, 1), entry(1, 1, 2)),
		"narrower at last":       zset(entry(1, 1, 2), entry(1, 1, 3), entry(1, 2)),
		"weight 0":               zset(entry(1, 1), entry(0, 2)),
		"weight too large":       zset(entry(1, 1), entry(impl.MaxWeight+1, 2)),
		"weight too small":       zset(entry(1, 1), entry(-impl.MaxWeight-1, 2)),
		"the largest int weight": zset(entry(math.MaxInt, 1), entry(1, 2)),
		"the least int weight":   zset(entry(math.MinInt, 1), entry(1, 2)),
	}
	for name, row := range invalidRows() {
		lists["row "+name] = zset(entry(1, row...))
	}
	return lists
}

func at(epoch int, round int) impl.Time {
	return impl.Time{Epoch: epoch, Round: round}
}

// grid returns the times with both components in low..high, in ascending order.
func grid(low int, high int) []impl.Time {
	var times []impl.Time
	for epoch := low; epoch <= high; epoch++ {
		for round := low; round <= high; round++ {
			times = append(times, at(epoch, round))
		}
	}
	return times
}

// below is the reference for the partial order.
func below(a impl.Time, b impl.Time) bool {
	return a.Epoch <= b.Epoch && a.Round <= b.Round
}

// covered is the reference for what the times of a list cover.
func covered(list []impl.Time, t impl.Time) bool {
	return slices.ContainsFunc(list, func(e impl.Time) bool { return below(e, t) })
}

// frontiersOf returns every frontier of times of a list that is in ascending order.
func frontiersOf(times []impl.Time) [][]impl.Time {
	frontiers := [][]impl.Time{{}}
	for _, t := range times {
		for _, f := range frontiers {
			if !covered(f, t) {
				frontiers = append(frontiers, append(slices.Clone(f), t))
			}
		}
	}
	return frontiers
}

// longestFrontier has MaxFrontier elements: one for each epoch.
func longestFrontier() []impl.Time {
	var f []impl.Time
	for epoch := 0; epoch <= impl.MaxTime; epoch++ {
		f = append(f, at(epoch, impl.MaxTime-epoch))
	}
	return f
}

// invalidFrontiers has a list for each way not to be a frontier.
func invalidFrontiers() map[string][]impl.Time {
	return map[string][]impl.Time{
		"descending":         {at(2, 1), at(1, 2)},
		"a time twice":       {at(1, 2), at(1, 2)},
		"same epoch":         {at(1, 1), at(1, 2)},
		"same round":         {at(1, 2), at(2, 2)},
		"comparable":         {at(1, 1), at(2, 2)},
		"comparable later":   {at(1, 5), at(2, 3), at(3, 4)},
		"epoch negative":     {at(-1, 3)},
		"round negative":     {at(3, -1)},
		"epoch too late":     {at(impl.MaxTime+1, 0)},
		"round too late":     {at(0, impl.MaxTime+1)},
		"invalid after some": {at(1, 3), at(2, 2), at(impl.MaxTime+1, 1)},
		"too many":           append(longestFrontier(), at(impl.MaxTime+1, -1)),
		"far too many":       slices.Concat(longestFrontier(), longestFrontier()),
	}
}

func invalidTimes() []impl.Time {
	return []impl.Time{
		at(-1, 0), at(0, -1), at(-1, -1), at(impl.MaxTime+1, 0), at(0, impl.MaxTime+1),
		at(math.MaxInt, 5), at(5, math.MaxInt), at(math.MinInt, 5), at(5, math.MinInt),
	}
}

func update(weight int, time impl.Time, row ...int) impl.Update {
	return impl.Update{Row: row, Time: time, Weight: weight}
}

func updates(list ...impl.Update) []impl.Update {
	return list
}

// moved returns the entries as updates at one time.
func moved(entries []impl.Entry, time impl.Time) []impl.Update {
	var list []impl.Update
	for _, e := range entries {
		list = append(list, update(e.Weight, time, e.Row...))
	}
	return list
}

// randomUpdates returns updates in any order, with repeated rows and times and with weights that may be 0.
func randomUpdates(r *rand.Rand, n int, width int) []impl.Update {
	list := make([]impl.Update, n)
	for i := range list {
		list[i] = update(between(r, -3, 3), at(between(r, 0, 3), between(r, 0, 3)), randomList(r, width, 1)...)
	}
	return list
}

// randomTrace returns a small trace.
func randomTrace(r *rand.Rand, width int) []impl.Update {
	return consolidated(randomUpdates(r, r.IntN(21), width))
}

func compareUpdates(a impl.Update, b impl.Update) int {
	return cmp.Or(slices.Compare(a.Row, b.Row), cmp.Compare(a.Time.Epoch, b.Time.Epoch), cmp.Compare(a.Time.Round, b.Time.Round))
}

// consolidated is the reference for traces: it adds up the weights at each time on its own.
func consolidated(list []impl.Update) []impl.Update {
	byTime := map[impl.Time][]impl.Entry{}
	for _, u := range list {
		byTime[u.Time] = append(byTime[u.Time], entry(u.Weight, u.Row...))
	}
	var sums []impl.Update
	for time, entries := range byTime {
		sums = append(sums, moved(sumOf(entries), time)...)
	}
	slices.SortFunc(sums, compareUpdates)
	return sums
}

// accumulated is the reference for what a list of updates amounts to at a time.
func accumulated(list []impl.Update, t impl.Time) []impl.Entry {
	var entries []impl.Entry
	for _, u := range list {
		if below(u.Time, t) {
			entries = append(entries, entry(u.Weight, u.Row...))
		}
	}
	return sumOf(entries)
}

func sameUpdate(a impl.Update, b impl.Update) bool {
	return a.Weight == b.Weight && compareUpdates(a, b) == 0
}

func expectTrace(t *testing.T, what string, got []impl.Update, want []impl.Update) {
	t.Helper()
	if !slices.EqualFunc(got, want, sameUpdate) {
		t.Errorf("%s = %v, want %v", what, got, want)
	}
}

// invalidUpdates has, for each way not to be valid in a list of updates, an update with the weight 1 otherwise.
func invalidUpdates() map[string]impl.Update {
	list := map[string]impl.Update{
		"weight too large":      update(impl.MaxWeight+1, at(0, 0), 2),
		"weight too small":      update(-impl.MaxWeight-1, at(0, 0), 2),
		"the largest weight":    update(math.MaxInt, at(0, 0), 2),
		"the smallest weight":   update(math.MinInt, at(0, 0), 2),
		"weight 0, row invalid": update(0, at(0, 0)),
	}
	for name, row := range invalidRows() {
		list["row "+name] = update(1, at(0, 0), row...)
	}
	for _, time := range invalidTimes() {
		list[fmt.Sprint("time ", time)] = update(1, time, 2)
	}
	return list
}

// invalidTraces has a list for each way not to be a trace.
func invalidTraces() map[string][]impl.Update {
	lists := map[string][]impl.Update{
		"too many updates":           moved(numbered(1, impl.MaxUpdates+1, 1), at(0, 0)),
		"rows descend":               updates(update(1, at(0, 0), 2), update(1, at(0, 0), 1)),
		"rows descend, times ascend": updates(update(1, at(0, 0), 2), update(1, at(1, 1), 1)),
		"epochs descend":             updates(update(1, at(1, 0), 1), update(1, at(0, 0), 1)),
		"rounds descend":             updates(update(1, at(0, 1), 1), update(1, at(0, 0), 1)),
		"epochs descend, not rounds": updates(update(1, at(1, 0), 1), update(1, at(0, 1), 1)),
		"an update twice":            updates(update(1, at(0, 0), 1), update(1, at(0, 0), 1)),
		"widths differ":              updates(update(1, at(0, 0), 1), update(1, at(0, 0), 1, 2)),
		"narrower at last":           updates(update(1, at(0, 0), 1, 2), update(1, at(0, 0), 1, 3), update(1, at(0, 0), 2)),
		"weight 0":                   updates(update(1, at(0, 0), 1), update(0, at(0, 0), 2)),
	}
	for name, u := range invalidUpdates() {
		lists[name] = updates(update(1, at(0, 0), 1), u)
		lists["alone: "+name] = updates(u)
	}
	return lists
}
