package tests

import (
	"fmt"
	"math"
	"testing"

	"loop.example/dataflow/impl"
)

func predicate(col int, kind int, value int) impl.Predicate {
	return impl.Predicate{Col: col, Kind: kind, Value: value}
}

// holds is the reference for predicates.
func holds(p impl.Predicate, row []int) bool {
	difference := row[p.Col] - p.Value
	switch p.Kind {
	case 1:
		return difference == 0
	case 2:
		return difference < 0
	case 3:
		return difference > 0
	default:
		return difference != 0
	}
}

// satisfying is the reference for Filter.
func satisfying(z []impl.Entry, p impl.Predicate) []impl.Entry {
	var kept []impl.Entry
	for _, e := range z {
		if holds(p, e.Row) {
			kept = append(kept, e)
		}
	}
	return kept
}

// projected is the reference for MapColumns.
func projected(z []impl.Entry, cols []int) []impl.Entry {
	var list []impl.Entry
	for _, e := range z {
		list = append(list, entry(e.Weight, picked(e.Row, cols)...))
	}
	return sumOf(list)
}

// predicatesOf returns predicates of each kind for each column, also with values that no row of a random Z-set has.
func predicatesOf(width int) []impl.Predicate {
	var list []impl.Predicate
	for col := range width {
		for kind := 1; kind <= 4; kind++ {
			for value := -3; value <= 3; value++ {
				list = append(list, predicate(col, kind, value))
			}
		}
	}
	return list
}

// invalidPredicates has a predicate for each way not to be valid for rows of width 2.
func invalidPredicates() []impl.Predicate {
	return []impl.Predicate{
		{}, predicate(-1, 1, 0), predicate(2, 1, 0), predicate(math.MaxInt, 4, 0), predicate(math.MinInt, 4, 0),
		predicate(0, 0, 0), predicate(0, 5, 0), predicate(0, -1, 0), predicate(0, math.MaxInt, 0), predicate(0, math.MinInt, 0),
		predicate(0, 2, impl.MaxValue+1), predicate(0, 3, -impl.MaxValue-1), predicate(0, 4, math.MaxInt), predicate(0, 4, math.MinInt),
	}
}

func TestP24KindsOfPredicates(t *testing.T) {
	if impl.Equal != 1 || impl.Less != 2 || impl.Greater != 3 || impl.NotEqual != 4 {
		t.Error("kinds of predicates")
	}
	z := zset(entry(2, 1), entry(-3, 2), entry(4, 3))
	expectZSet(t, "Filter with Equal", impl.Filter(z, predicate(0, impl.Equal, 2)), z[1:2])
	expectZSet(t, "Filter with Less", impl.Filter(z, predicate(0, impl.Less, 2)), z[:1])
	expectZSet(t, "Filter with Greater", impl.Filter(z, predicate(0, impl.Greater, 2)), z[2:])
	expectZSet(t, "Filter with NotEqual", impl.Filter(z, predicate(0, impl.NotEqual, 2)), zset(z[0], z[2]))
}

func TestP24LimitsOfPredicates(t *testing.T) {
	for width := 1; width <= impl.MaxWidth; width++ {
		for kind := 1; kind <= 4; kind++ {
			for _, value := range []int{-impl.MaxValue, 0, impl.MaxValue} {
				expectBool(t, "ValidPredicate for the first column", impl.ValidPredicate(predicate(0, kind, value), width), true)
				expectBool(t, "ValidPredicate for the last column", impl.ValidPredicate(predicate(width-1, kind, value), width), true)
				expectBool(t, "ValidPredicate for a column too many", impl.ValidPredicate(predicate(width, kind, value), width), false)
			}
		}
	}
	for _, p := range invalidPredicates() {
		expectBool(t, fmt.Sprintf("ValidPredicate(%v, 2)", p), impl.ValidPredicate(p, 2), false)
	}
	for _, width := range []int{0, -1, impl.MaxWidth + 1, math.MaxInt, math.MinInt} {
		expectBool(t, fmt.Sprintf("ValidPredicate for the width %d", width), impl.ValidPredicate(predicate(0, impl.Less, 1), width), false)
	}
	expectBool(t, "ValidPredicate for a negative column and width", impl.ValidPredicate(predicate(-2, impl.Less, 1), -1), false)
}

func TestP24AFilterDividesAZSet(t *testing.T) {
	r := newRandom()
	for range 100 {
		width := between(r, 1, 3)
		z := randomZSet(r, width)
		for _, p := range predicatesOf(width) {
			kept := impl.Filter(z, p)
			expectZSet(t, "Filter", kept, satisfying(z, p))
			expectZSet(t, "Filter twice", impl.Filter(kept, p), kept)
			if p.Kind == impl.Equal {
				rest := impl.Filter(z, predicate(p.Col, impl.NotEqual, p.Value))
				expectZSet(t, "Filter with opposite predicates", impl.Add(kept, rest), z)
			}
		}
	}
}

func TestP24FilterAtItsEdges(t *testing.T) {
	most := numbered(1, impl.MaxEntries, impl.MaxWeight)
	all := predicate(0, impl.NotEqual, -impl.MaxValue)
	expectZSet(t, "Filter of the largest Z-set", impl.Filter(most, all), most)
	expectZSet(t, "Filter that keeps nothing", impl.Filter(most, predicate(0, impl.Less, 1)), nil)
	extreme := zset(entry(-impl.MaxWeight, -impl.MaxValue), entry(1, 0), entry(impl.MaxWeight, impl.MaxValue))
	expectZSet(t, "Filter less than the largest value", impl.Filter(extreme, predicate(0, impl.Less, impl.MaxValue)), extreme[:2])
	expectZSet(t, "Filter greater than the smallest value", impl.Filter(extreme, predicate(0, impl.Greater, -impl.MaxValue)), extreme[1:])
	expectZSet(t, "Filter of nothing", impl.Filter(nil, all), nil)
	expectZSet(t, "Filter of nothing with an invalid predicate", impl.Filter(nil, impl.Predicate{}), nil)
	for name, z := range invalidZSets() {
		expectZSet(t, "Filter: "+name, impl.Filter(z, predicate(0, impl.NotEqual, 77)), nil)
		expectZSet(t, "Filter that keeps a part: "+name, impl.Filter(z, predicate(0, impl.Equal, 1)), nil)
	}
	for _, p := range invalidPredicates() {
		expectZSet(t, fmt.Sprintf("Filter with %v", p), impl.Filter(zset(entry(1, 0, 0), entry(1, 3, 4)), p), nil)
	}
}

func TestP25FiltersAreLinear(t *testing.T) {
	r := newRandom()
	for range 100 {
		width := between(r, 1, 2)
		a, b := randomZSet(r, width), randomZSet(r, width)
		for _, p := range predicatesOf(width) {
			sum := impl.Filter(impl.Add(a, b), p)
			expectZSet(t, "Filter of a sum", sum, impl.Add(impl.Filter(a, p), impl.Filter(b, p)))
			expectZSet(t, "Filter of a sum", sum, sumOf(satisfying(a, p), satisfying(b, p)))
		}
	}
}

func TestP26ProjectionsKeepTheTotalWeight(t *testing.T) {
	r := newRandom()
	for range 300 {
		width := between(r, 1, 4)
		z := randomZSet(r, width)
		cols := randomColumns(r, width)
		mapped := impl.MapColumns(z, cols)
		expectZSet(t, "MapColumns", mapped, projected(z, cols))
		if impl.TotalWeight(mapped) != impl.TotalWeight(z) {
			t.Errorf("TotalWeight of MapColumns(%v, %v) = %d", z, cols, impl.TotalWeight(mapped))
		}
		expectZSet(t, "MapColumns to all columns", impl.MapColumns(z, []int{0, 1, 2, 3}[:width]), z)
	}
}

func TestP26MapColumnsAtItsEdges(t *testing.T) {
	big := impl.MaxWeight
	cases := []struct {
		name string
		z    []impl.Entry
		cols []int
		want []impl.Entry
	}{
		{"nothing", nil, []int{0}, nil},
		{"nothing to invalid columns", nil, []int{-1}, nil},
		{"rows cancel", zset(entry(2, 1, 1), entry(-2, 1, 2), entry(3, 2, 1)), []int{0}, zset(entry(3, 2))},
		{"all rows cancel", zset(entry(2, 1, 1), entry(-2, 1, 2)), []int{0}, nil},
		{"another order", zset(entry(1, 1, 9), entry(2, 2, 8), entry(3, 3, 7)), []int{1}, zset(entry(3, 7), entry(2, 8), entry(1, 9))},
		{"columns repeat", zset(entry(-1, 1, 9), entry(2, 2, 8)), []int{1, 0, 1}, zset(entry(2, 8, 2, 8), entry(-1, 9, 1, 9))},
		{"the widest rows", zset(entry(5, 4, 3)), repeated(impl.MaxWidth, 1), zset(entry(5, repeated(impl.MaxWidth, 3)...))},
		{"the largest sum", zset(entry(big-1, 1, 1), entry(1, 1, 2)), []int{0}, zset(entry(big, 1))},
		{"the smallest sum", zset(entry(1-big, 1, 1), entry(-1, 1, 2)), []int{0}, zset(entry(-big, 1))},
		{"a sum too large", zset(entry(big, 1, 1), entry(1, 1, 2), entry(1, 2, 2)), []int{0}, nil},
		{"a sum too small", zset(entry(-big, 1, 1), entry(-1, 1, 2), entry(1, 2, 2)), []int{0}, nil},
		{"a sum too large on the way", zset(entry(big, 1, 1), entry(big, 1, 2), entry(-big, 1, 3)), []int{0}, zset(entry(big, 1))},
		{"the most entries", numbered(1, impl.MaxEntries, -1), []int{0}, numbered(1, impl.MaxEntries, -1)},
	}
	for _, c := range cases {
		expectZSet(t, "MapColumns: "+c.name, impl.MapColumns(c.z, c.cols), c.want)
	}
	for _, cols := range invalidColumns() {
		expectZSet(t, fmt.Sprint("MapColumns to ", cols), impl.MapColumns(zset(entry(1, 4, 5), entry(1, 4, 6)), cols), nil)
	}
	for name, z := range invalidZSets() {
		expectZSet(t, "MapColumns: "+name, impl.MapColumns(z, []int{0}), nil)
	}
}

func TestP27ProjectionsAreLinear(t *testing.T) {
	r := newRandom()
	for range 300 {
		width := between(r, 1, 3)
		a, b := randomZSet(r, width), randomZSet(r, width)
		cols := randomColumns(r, width)
		sum := impl.MapColumns(impl.Add(a, b), cols)
		expectZSet(t, "MapColumns of a sum", sum, impl.Add(impl.MapColumns(a, cols), impl.MapColumns(b, cols)))
		expectZSet(t, "MapColumns of a sum", sum, sumOf(projected(a, cols), projected(b, cols)))
	}
}

func TestP28FilteringCommutesWithAccumulation(t *testing.T) {
	r := newRandom()
	for range 40 {
		width := between(r, 1, 2)
		tr := randomTrace(r, width)
		for _, p := range predicatesOf(width) {
			filtered := impl.FilterTrace(tr, p)
			var want []impl.Update
			for _, u := range tr {
				if holds(p, u.Row) {
					want = append(want, u)
				}
			}
			expectTrace(t, "FilterTrace", filtered, want)
			for _, time := range grid(0, 3) {
				expectZSet(t, "AsOf of FilterTrace", impl.AsOf(filtered, time), impl.Filter(impl.AsOf(tr, time), p))
			}
		}
	}
}

func TestP28FilterTraceAtItsEdges(t *testing.T) {
	tr := updates(update(2, at(0, 1), 1, 5), update(-2, at(1, 0), 1, 5), update(7, at(1, 1), 3, 4))
	expectTrace(t, "FilterTrace", impl.FilterTrace(tr, predicate(1, impl.Greater, 4)), tr[:2])
	expectTrace(t, "FilterTrace that keeps nothing", impl.FilterTrace(tr, predicate(1, impl.Less, 4)), nil)
	expectTrace(t, "FilterTrace of nothing", impl.FilterTrace(nil, predicate(0, impl.Equal, 0)), nil)
	expectTrace(t, "FilterTrace of nothing with an invalid predicate", impl.FilterTrace(nil, impl.Predicate{}), nil)
	most := moved(numbered(1, impl.MaxUpdates, -impl.MaxWeight), at(impl.MaxTime, impl.MaxTime))
	expectTrace(t, "FilterTrace of the most updates", impl.FilterTrace(most, predicate(0, impl.Less, impl.MaxValue)), most)
	for _, p := range invalidPredicates() {
		expectTrace(t, fmt.Sprintf("FilterTrace with %v", p), impl.FilterTrace(tr, p), nil)
	}
	for name, invalid := range invalidTraces() {
		expectTrace(t, "FilterTrace: "+name, impl.FilterTrace(invalid, predicate(0, impl.NotEqual, 77)), nil)
		expectTrace(t, "FilterTrace that keeps a part: "+name, impl.FilterTrace(invalid, predicate(0, impl.Equal, 1)), nil)
	}
}

func TestP29ProjectionCommutesWithAccumulation(t *testing.T) {
	r := newRandom()
	for range 300 {
		width := between(r, 1, 3)
		tr := randomTrace(r, width)
		cols := randomColumns(r, width)
		mapped := impl.MapTrace(tr, cols)
		var want []impl.Update
		for _, u := range tr {
			want = append(want, update(u.Weight, u.Time, picked(u.Row, cols)...))
		}
		expectTrace(t, "MapTrace", mapped, consolidated(want))
		for _, time := range grid(0, 3) {
			expectZSet(t, "AsOf of MapTrace", impl.AsOf(mapped, time), impl.MapColumns(impl.AsOf(tr, time), cols))
		}
	}
}

func TestP29MapTraceAtItsEdges(t *testing.T) {
	big := impl.MaxWeight
	first, second := at(0, 1), at(1, 0)
	cases := []struct {
		name string
		tr   []impl.Update
		cols []int
		want []impl.Update
	}{
		{"nothing", nil, []int{0}, nil},
		{"nothing to invalid columns", nil, []int{-1}, nil},
		{"rows cancel", updates(update(2, first, 1, 1), update(-2, first, 1, 2), update(3, first, 2, 1)), []int{0}, updates(update(3, first, 2))},
		{"other times do not cancel", updates(update(2, second, 1, 1), update(-2, first, 1, 2)), []int{0}, updates(update(-2, first, 1), update(2, second, 1))},
		{"the widest rows", updates(update(5, first, 4, 3)), repeated(impl.MaxWidth, 1), updates(update(5, first, repeated(impl.MaxWidth, 3)...))},
		{"the largest sum", updates(update(big-1, first, 1, 1), update(1, first, 1, 2)), []int{0}, updates(update(big, first, 1))},
		{"a sum too large", updates(update(big, first, 1, 1), update(1, first, 1, 2), update(1, first, 2, 2)), []int{0}, nil},
		{"a sum too small", updates(update(-big, first, 1, 1), update(-1, first, 1, 2), update(1, first, 2, 2)), []int{0}, nil},
	}
	for _, c := range cases {
		expectTrace(t, "MapTrace: "+c.name, impl.MapTrace(c.tr, c.cols), c.want)
	}
	most := moved(numbered(1, impl.MaxUpdates, big), first)
	expectTrace(t, "MapTrace of the most updates", impl.MapTrace(most, []int{0}), most)
	for _, cols := range invalidColumns() {
		expectTrace(t, fmt.Sprint("MapTrace to ", cols), impl.MapTrace(updates(update(1, first, 4, 5), update(1, first, 4, 6)), cols), nil)
	}
	for name, invalid := range invalidTraces() {
		expectTrace(t, "MapTrace: "+name, impl.MapTrace(invalid, []int{0}), nil)
	}
}

func TestFilterFunctionsReturnNewMemory(t *testing.T) {
	z := zset(entry(2, 1, 2), entry(-2, 1, 3), entry(3, 5, 0))
	tr := updates(update(2, at(0, 1), 1, 2), update(-2, at(1, 0), 1, 2), update(3, at(0, 0), 5, 0))
	expectFresh(t, "Filter", impl.Filter, z, predicate(0, impl.Less, 5))
	expectFresh(t, "Filter that keeps all", impl.Filter, z, predicate(0, impl.Less, 9))
	expectFresh(t, "MapColumns", impl.MapColumns, z, []int{1})
	expectFresh(t, "MapColumns to all columns", impl.MapColumns, z, []int{0, 1})
	expectFresh(t, "FilterTrace", impl.FilterTrace, tr, predicate(0, impl.Less, 5))
	expectFresh(t, "FilterTrace that keeps all", impl.FilterTrace, tr, predicate(0, impl.Less, 9))
	expectFresh(t, "MapTrace", impl.MapTrace, tr, []int{1})
	expectFresh(t, "MapTrace to all columns", impl.MapTrace, tr, []int{0, 1})
}
