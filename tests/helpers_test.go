package tests

import (
	"fmt"
	"maps"
	"math"
	"math/rand/v2"
	"reflect"
	"slices"
	"testing"

	"loop.example/dataflow/impl"
)

// newRandom is seeded with a constant, so that a failure can be repeated.
func newRandom() *rand.Rand {
	return rand.New(rand.NewPCG(7, 11))
}

func between(r *rand.Rand, low int, high int) int {
	return low + r.IntN(high-low+1)
}

// repeated returns a list of n equal values.
func repeated(n int, value int) []int {
	return slices.Repeat([]int{value}, n)
}

func randomList(r *rand.Rand, length int, limit int) []int {
	list := make([]int, length)
	for i := range list {
		list[i] = between(r, -limit, limit)
	}
	return list
}

// randomEntries returns entries in any order, with repeated rows and with weights that may be 0.
func randomEntries(r *rand.Rand, n int, width int) []impl.Entry {
	entries := make([]impl.Entry, n)
	for i := range entries {
		entries[i] = entry(between(r, -3, 3), randomList(r, width, 2)...)
	}
	return entries
}

// randomZSet returns a small Z-set.
func randomZSet(r *rand.Rand, width int) []impl.Entry {
	return sumOf(randomEntries(r, r.IntN(13), width))
}

func entry(weight int, row ...int) impl.Entry {
	return impl.Entry{Row: row, Weight: weight}
}

func zset(entries ...impl.Entry) []impl.Entry {
	return entries
}

// numbered returns the Z-set of the rows with the one value low, low+1, .. high, all with one weight.
func numbered(low int, high int, weight int) []impl.Entry {
	var z []impl.Entry
	for value := low; value <= high; value++ {
		z = append(z, entry(weight, value))
	}
	return z
}

// sumOf is the reference for sums: it adds up the weights of all lists in a map.
func sumOf(lists ...[]impl.Entry) []impl.Entry {
	rows := map[string][]int{}
	weights := map[string]int{}
	for _, list := range lists {
		for _, e := range list {
			key := fmt.Sprint(e.Row)
			rows[key] = e.Row
			weights[key] += e.Weight
		}
	}
	maps.DeleteFunc(weights, func(_ string, weight int) bool { return weight == 0 })
	sum := []impl.Entry{}
	for key, weight := range weights {
		sum = append(sum, entry(weight, rows[key]...))
	}
	slices.SortFunc(sum, func(a impl.Entry, b impl.Entry) int { return slices.Compare(a.Row, b.Row) })
	return sum
}

func sameEntry(a impl.Entry, b impl.Entry) bool {
	return a.Weight == b.Weight && slices.Equal(a.Row, b.Row)
}

func sameZSet(a []impl.Entry, b []impl.Entry) bool {
	return slices.EqualFunc(a, b, sameEntry)
}

func expectZSet(t *testing.T, what string, got []impl.Entry, want []impl.Entry) {
	t.Helper()
	if !sameZSet(got, want) {
		t.Errorf("%s = %v, want %v", what, got, want)
	}
}

func expectTimes(t *testing.T, what string, got []impl.Time, want []impl.Time) {
	t.Helper()
	if !slices.Equal(got, want) {
		t.Errorf("%s = %v, want %v", what, got, want)
	}
}

func expectBool(t *testing.T, what string, got bool, want bool) {
	t.Helper()
	if got != want {
		t.Errorf("%s = %v, want %v", what, got, want)
	}
}

// cloneEntries copies the spare capacity of rows and of the list, too.
func cloneEntries(entries []impl.Entry) []impl.Entry {
	whole := entries[:cap(entries)]
	clone := make([]impl.Entry, len(whole))
	for i, e := range whole {
		clone[i] = entry(e.Weight, slices.Clone(e.Row[:cap(e.Row)])...)
	}
	return clone
}

// spacious returns equal entries, where the rows have spare capacity and so has the list.
func spacious(entries []impl.Entry) []impl.Entry {
	copied := make([]impl.Entry, 0, len(entries)+3)
	for _, e := range entries {
		copied = append(copied, entry(e.Weight, append(make([]int, 0, len(e.Row)+2), e.Row...)...))
	}
	return copied
}

// expectFreshZSets calls a function, overwrites all memory of its result, and then looks for
// a difference in its arguments and in the rows of the result that were overwritten before others.
func expectFreshZSets(t *testing.T, what string, call func(args [][]impl.Entry) []impl.Entry, args ...[]impl.Entry) {
	t.Helper()
	var before [][]impl.Entry
	var given [][]impl.Entry
	for _, arg := range args {
		given = append(given, spacious(arg))
		before = append(before, cloneEntries(given[len(given)-1]))
	}
	result := call(given)
	if len(result) == 0 {
		t.Errorf("%s is empty and shows nothing about memory", what)
	}
	for i, e := range result {
		row := e.Row[:cap(e.Row)]
		for j := range row {
			row[j] = 5000 + i
		}
	}
	for i, e := range result {
		if slices.ContainsFunc(e.Row[:cap(e.Row)], func(value int) bool { return value != 5000+i }) {
			t.Errorf("%s: row %d of the result shares memory with another one", what, i)
		}
	}
	for i := range result[:cap(result)] {
		result[:cap(result)][i] = impl.Entry{Weight: -1}
	}
	for i := range given {
		if !reflect.DeepEqual(cloneEntries(given[i]), before[i]) {
			t.Errorf("%s changes its argument %d or shares memory with it", what, i)
		}
	}
}

// expectFreshList does the same for functions of lists of values without memory of their own.
func expectFreshList[T comparable](t *testing.T, what string, call func(args [][]T) []T, args ...[]T) {
	t.Helper()
	var before [][]T
	var given [][]T
	for _, arg := range args {
		list := append(make([]T, 0, len(arg)+3), arg...)
		given = append(given, list)
		before = append(before, slices.Clone(list[:cap(list)]))
	}
	result := call(given)
	if len(result) == 0 {
		t.Errorf("%s is empty and shows nothing about memory", what)
	}
	// No argument consists of the zero value alone, so that clearing shows.
	clear(result[:cap(result)])
	for i, list := range given {
		if !slices.Equal(list[:cap(list)], before[i]) {
			t.Errorf("%s changes its argument %d or shares memory with it", what, i)
		}
	}
}

// invalidRows has a list for each way not to be a row.
func invalidRows() map[string][]int {
	return map[string][]int{
		"nil":                nil,
		"empty":              {},
		"too wide":           repeated(impl.MaxWidth+1, 1),
		"value too large":    {1, impl.MaxValue + 1},
		"value too small":    {-impl.MaxValue - 1, 1},
		"the largest value":  {math.MaxInt},
		"the smallest value": {1, math.MinInt},
	}
}

// invalidZSets has a list for each way not to be a Z-set. Apart from this all could be sets.
func invalidZSets() map[string][]impl.Entry {
	lists := map[string][]impl.Entry{
		"too many entries":       numbered(1, impl.MaxEntries+1, 1),
		"rows descend":           zset(entry(1, 2), entry(1, 1)),
		"rows descend at last":   zset(entry(1, 1, 5), entry(1, 2, 5), entry(1, 2, 4)),
		"a row twice":            zset(entry(1, 1), entry(1, 1)),
		"widths differ":          zset(entry(1, 1), entry(1, 1, 2)),
		"narrower at last":       zset(entry(1, 1, 2), entry(1, 1, 3), entry(1, 2)),
		"weight 0":               zset(entry(1, 1), entry(0, 2)),
		"weight too large":       zset(entry(1, 1), entry(impl.MaxWeight+1, 2)),
		"weight too small":       zset(entry(1, 1), entry(-impl.MaxWeight-1, 2)),
		"the largest int weight": zset(entry(math.MaxInt, 1), entry(1, 2)),
		"the least int weight":   zset(entry(math.MinInt, 1), entry(1, 2)),
	}
	for name, row := range invalidRows() {
		lists["row "+name] = zset(entry(1, row...))
	}
	return lists
}

func at(epoch int, round int) impl.Time {
	return impl.Time{Epoch: epoch, Round: round}
}

// grid returns the times with both components in low..high, in ascending order.
func grid(low int, high int) []impl.Time {
	var times []impl.Time
	for epoch := low; epoch <= high; epoch++ {
		for round := low; round <= high; round++ {
			times = append(times, at(epoch, round))
		}
	}
	return times
}

// below is the reference for the partial order.
func below(a impl.Time, b impl.Time) bool {
	return a.Epoch <= b.Epoch && a.Round <= b.Round
}

// covered is the reference for what the times of a list cover.
func covered(list []impl.Time, t impl.Time) bool {
	return slices.ContainsFunc(list, func(e impl.Time) bool { return below(e, t) })
}

// frontiersOf returns every frontier of times of a list that is in ascending order.
func frontiersOf(times []impl.Time) [][]impl.Time {
	frontiers := [][]impl.Time{{}}
	for _, t := range times {
		for _, f := range frontiers {
			if !covered(f, t) {
				frontiers = append(frontiers, append(slices.Clone(f), t))
			}
		}
	}
	return frontiers
}

// longestFrontier has MaxFrontier elements: one for each epoch.
func longestFrontier() []impl.Time {
	var f []impl.Time
	for epoch := 0; epoch <= impl.MaxTime; epoch++ {
		f = append(f, at(epoch, impl.MaxTime-epoch))
	}
	return f
}

// invalidFrontiers has a list for each way not to be a frontier.
func invalidFrontiers() map[string][]impl.Time {
	return map[string][]impl.Time{
		"descending":         {at(2, 1), at(1, 2)},
		"a time twice":       {at(1, 2), at(1, 2)},
		"same epoch":         {at(1, 1), at(1, 2)},
		"same round":         {at(1, 2), at(2, 2)},
		"comparable":         {at(1, 1), at(2, 2)},
		"comparable later":   {at(1, 5), at(2, 3), at(3, 4)},
		"epoch negative":     {at(-1, 3)},
		"round negative":     {at(3, -1)},
		"epoch too late":     {at(impl.MaxTime+1, 0)},
		"round too late":     {at(0, impl.MaxTime+1)},
		"invalid after some": {at(1, 3), at(2, 2), at(impl.MaxTime+1, 1)},
		"too many":           append(longestFrontier(), at(impl.MaxTime+1, -1)),
		"far too many":       slices.Concat(longestFrontier(), longestFrontier()),
	}
}

func invalidTimes() []impl.Time {
	return []impl.Time{
		at(-1, 0), at(0, -1), at(-1, -1), at(impl.MaxTime+1, 0), at(0, impl.MaxTime+1),
		at(math.MaxInt, 5), at(5, math.MaxInt), at(math.MinInt, 5), at(5, math.MinInt),
	}
}
