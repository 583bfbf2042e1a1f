package tests

import (
	"fmt"
	"math"
	"slices"
	"testing"

	"loop.example/dataflow/impl"
)

// negated is the reference for Negate.
func negated(z []impl.Entry) []impl.Entry {
	var list []impl.Entry
	for _, e := range z {
		list = append(list, entry(-e.Weight, e.Row...))
	}
	return list
}

// minus is the reference for differences.
func minus(a []impl.Entry, b []impl.Entry) []impl.Entry {
	return sumOf(a, negated(b))
}

// distinctOf is the reference for Distinct.
func distinctOf(z []impl.Entry) []impl.Entry {
	var list []impl.Entry
	for _, e := range positive(z) {
		list = append(list, entry(1, e.Row...))
	}
	return list
}

// grouped returns the rows (key, low), (key, low+1), .. (key, high), all with one weight.
func grouped(key int, low int, high int, weight int) []impl.Entry {
	var z []impl.Entry
	for value := low; value <= high; value++ {
		z = append(z, entry(weight, key, value))
	}
	return z
}

func TestP40TheChangeOfAJoinIsExact(t *testing.T) {
	r := newRandom()
	for range 500 {
		widthA, widthB := between(r, 1, 3), between(r, 1, 3)
		a, da := randomZSet(r, widthA), randomZSet(r, widthA)
		b, db := randomZSet(r, widthB), randomZSet(r, widthB)
		for k := range min(widthA, widthB) + 1 {
			what := fmt.Sprintf("DeltaJoin(%v, %v, %v, %v, %d)", a, da, b, db, k)
			change := impl.DeltaJoin(a, da, b, db, k)
			expectZSet(t, what, change, minus(joined(sumOf(a, da), sumOf(b, db), k), joined(a, b, k)))
			after := impl.Join(impl.Add(a, da), impl.Add(b, db), k)
			expectZSet(t, what, change, impl.Add(after, impl.Negate(impl.Join(a, b, k))))
			expectZSet(t, what+" without changes", impl.DeltaJoin(a, nil, b, nil, k), nil)
			expectZSet(t, what+" from nothing", impl.DeltaJoin(nil, da, nil, db, k), joined(da, db, k))
		}
	}
}

func TestP40DeltaJoinAtItsEdges(t *testing.T) {
	one, two := zset(entry(1, 1)), zset(entry(1, 2))
	cases := []struct {
		name               string
		a, da, b, db, want []impl.Entry
	}{
		{"a row comes on the left", nil, one, zset(entry(3, 1)), nil, zset(entry(3, 1))},
		{"a row comes on the right", zset(entry(3, 1)), nil, nil, one, zset(entry(3, 1))},
		{"a row comes on both sides", nil, one, nil, one, one},
		{"weights grow on both sides", zset(entry(2, 1)), zset(entry(3, 1)), zset(entry(5, 1)), zset(entry(7, 1)), zset(entry(50, 1))},
		{"a row goes on the left", one, negated(one), zset(entry(3, 1)), nil, zset(entry(-3, 1))},
		{"a row goes on the right", zset(entry(3, 1)), nil, one, negated(one), zset(entry(-3, 1))},
		{"a row goes on both sides", one, negated(one), one, negated(one), negated(one)},
		{"a row goes on one side and comes on the other", one, negated(one), nil, one, nil},
		{"a row goes on the left and changes its sign on the right", one, negated(one), one, zset(entry(-2, 1)), negated(one)},
		{"both sides change their sign", one, zset(entry(-2, 1)), one, zset(entry(-2, 1)), nil},
		{"the changes meet each other", one, two, one, two, two},
		{"the change has no partner", one, two, one, nil, nil},
		{"wider rows", zset(entry(2, 1, 5)), zset(entry(1, 2, 6)), zset(entry(3, 1, 7), entry(4, 2, 8)), zset(entry(-3, 1, 7), entry(1, 2, 9)),
			zset(entry(-6, 1, 5, 7), entry(4, 2, 6, 8), entry(1, 2, 6, 9))},
		{"no left side", nil, nil, one, two, nil},
		{"no right side", one, two, nil, []impl.Entry{}, nil},
		{"nothing", nil, nil, nil, nil, nil},
	}
	for _, c := range cases {
		expectZSet(t, "DeltaJoin: "+c.name, impl.DeltaJoin(c.a, c.da, c.b, c.db, 1), c.want)
	}
}

func TestP40WhatIsNotAZSetCountsAsEmpty(t *testing.T) {
	big := impl.MaxWeight
	one, most := zset(entry(1, 1)), numbered(1, impl.MaxEntries, 1)
	cases := []struct {
		name               string
		a, da, b, db, want []impl.Entry
	}{
		{"the largest weight on the right", zset(entry(5, 2)), one, zset(entry(big-1, 1)), numbered(1, 2, 1), zset(entry(big, 1), entry(5, 2))},
		{"a weight too large on the right", zset(entry(5, 2)), one, zset(entry(big, 1)), numbered(1, 2, 1), zset(entry(5, 2))},
		{"the most entries on the right", zset(entry(5, 2)), one, numbered(1, impl.MaxEntries-1, 1), zset(entry(1, 2), entry(1, impl.MaxEntries)), zset(entry(1, 1), entry(5, 2))},
		{"too many entries on the right", zset(entry(5, 2)), one, most, zset(entry(1, 2), entry(1, impl.MaxEntries+1)), zset(entry(5, 2))},
		{"the largest weight in the join of da", zset(entry(5, 2)), zset(entry(big/2, 1)), one, numbered(1, 2, 1), zset(entry(big, 1), entry(5, 2))},
		{"a weight too large in the join of da", zset(entry(5, 2)), zset(entry(big/2+1, 1)), one, numbered(1, 2, 1), zset(entry(5, 2))},
		{"the largest weight in the join with db", zset(entry(big/2, 1)), zset(entry(3, 2)), nil, zset(entry(2, 1), entry(1, 2)), zset(entry(big, 1), entry(3, 2))},
		{"a weight too large in the join with db", zset(entry(big/2+1, 1)), zset(entry(3, 2)), nil, zset(entry(2, 1), entry(1, 2)), zset(entry(3, 2))},
		{"the largest sum", zset(entry(big-1, 1)), one, nil, one, zset(entry(big, 1))},
		{"a sum too large", zset(entry(big, 1)), numbered(1, 2, 1), nil, numbered(1, 2, 1), nil},
		{"the smallest sum", zset(entry(big-1, 1)), one, nil, negated(one), zset(entry(-big, 1))},
		{"a sum too small", zset(entry(big, 1)), one, nil, negated(one), nil},
		{"the sum with the most entries", grouped(1, 1, 200, 1), grouped(1, 201, impl.MaxEntries, 1), nil, one, grouped(1, 1, impl.MaxEntries, 1)},
		{"a sum with too many entries", grouped(1, 1, 200, 1), grouped(1, 201, impl.MaxEntries+1, 1), nil, one, nil},
		{"the left side has too many entries", most, zset(entry(1, impl.MaxEntries+1)), zset(entry(2, 7), entry(3, impl.MaxEntries+1)), nil, zset(entry(3, impl.MaxEntries+1))},
		{"the left side has a weight too large", zset(entry(big, 1)), one, zset(entry(7, 1)), nil, zset(entry(7, 1))},
		{"the most entries in the join of da", nil, most, nil, most, most},
		{"too many entries in the join of da", zset(entry(1, 2, 0)), grouped(1, 1, 201, 1), grouped(1, 1, 2, 1), zset(entry(1, 2, 7)), zset(entry(1, 2, 0, 7))},
		{"too many entries in the join with db", grouped(1, 1, 201, 1), zset(entry(1, 2, 0)), zset(entry(1, 2, 7)), grouped(1, 1, 2, 1), zset(entry(1, 2, 0, 7))},
	}
	for _, c := range cases {
		expectZSet(t, "DeltaJoin: "+c.name, impl.DeltaJoin(c.a, c.da, c.b, c.db, 1), c.want)
	}
}

func TestP40DeltaJoinLimitsTheWidth(t *testing.T) {
	for widthA := 1; widthA <= impl.MaxWidth; widthA++ {
		for widthB := 1; widthB <= impl.MaxWidth; widthB++ {
			a, b := zset(entry(2, repeated(widthA, 1)...)), zset(entry(3, repeated(widthB, 1)...))
			for k := range min(widthA, widthB) + 1 {
				var want []impl.Entry
				if width := widthA + widthB - k; width <= impl.MaxWidth {
					want = zset(entry(6, repeated(width, 1)...))
				}
				what := fmt.Sprintf("DeltaJoin of the widths %d and %d on %d", widthA, widthB, k)
				expectZSet(t, what+", a changes", impl.DeltaJoin(nil, a, b, nil, k), want)
				expectZSet(t, what+", b changes", impl.DeltaJoin(a, nil, nil, b, k), want)
			}
			for _, k := range badNumbersOfColumns(min(widthA, widthB)) {
				what := fmt.Sprintf("DeltaJoin of the widths %d and %d on %d", widthA, widthB, k)
				expectZSet(t, what, impl.DeltaJoin(a, a, b, b, k), nil)
				expectZSet(t, what+", a changes", impl.DeltaJoin(nil, a, b, nil, k), nil)
				expectZSet(t, what+", b changes", impl.DeltaJoin(a, nil, nil, b, k), nil)
				expectZSet(t, what+" without a", impl.DeltaJoin(nil, nil, b, b, k), nil)
				expectZSet(t, what+" of nothing", impl.DeltaJoin(nil, nil, nil, nil, k), nil)
			}
		}
	}
}

func TestP40DeltaJoinOfInvalidArguments(t *testing.T) {
	one, pair := zset(entry(1, 1)), zset(entry(1, 1, 2))
	for name, z := range invalidZSets() {
		for k := range 2 {
			expectZSet(t, "DeltaJoin, a: "+name, impl.DeltaJoin(z, one, one, one, k), nil)
			expectZSet(t, "DeltaJoin, da: "+name, impl.DeltaJoin(one, z, one, one, k), nil)
			expectZSet(t, "DeltaJoin, b: "+name, impl.DeltaJoin(one, one, z, one, k), nil)
			expectZSet(t, "DeltaJoin, db: "+name, impl.DeltaJoin(one, one, one, z, k), nil)
			expectZSet(t, "DeltaJoin, da alone: "+name, impl.DeltaJoin(nil, z, one, one, k), nil)
			expectZSet(t, "DeltaJoin, db alone: "+name, impl.DeltaJoin(one, one, nil, z, k), nil)
		}
	}
	for k := range 2 {
		expectZSet(t, "DeltaJoin, a is wider", impl.DeltaJoin(pair, one, one, one, k), nil)
		expectZSet(t, "DeltaJoin, da is wider", impl.DeltaJoin(one, pair, one, one, k), nil)
		expectZSet(t, "DeltaJoin, b is wider", impl.DeltaJoin(one, one, pair, one, k), nil)
		expectZSet(t, "DeltaJoin, db is wider", impl.DeltaJoin(one, one, one, pair, k), nil)
	}
}

func TestP41TheChangeOfTheDistinctRowsIsExact(t *testing.T) {
	r := newRandom()
	for range 500 {
		width := between(r, 1, 3)
		a, da := randomZSet(r, width), randomZSet(r, width)
		what := fmt.Sprintf("DeltaDistinct(%v, %v)", a, da)
		change := impl.DeltaDistinct(a, da)
		expectZSet(t, what, change, minus(distinctOf(sumOf(a, da)), distinctOf(a)))
		expectZSet(t, what, change, impl.Add(impl.Distinct(impl.Add(a, da)), impl.Negate(impl.Distinct(a))))
		for _, e := range change {
			if impl.WeightOf(da, e.Row) == 0 {
				t.Errorf("%s concerns %v", what, e.Row)
			}
		}
		expectZSet(t, what+" without changes", impl.DeltaDistinct(a, nil), nil)
		expectZSet(t, what+" from nothing", impl.DeltaDistinct(nil, da), distinctOf(da))
	}
}

func TestP41DistinctRowsChangeOneByOne(t *testing.T) {
	weights := []int{-impl.MaxWeight, -2, -1, 0, 1, 2, impl.MaxWeight}
	for _, weight := range weights {
		for _, change := range weights {
			// Rows of the weight 0 are left out by the reference.
			a, da := sumOf(zset(entry(weight, 1))), sumOf(zset(entry(change, 1)))
			var want []impl.Entry
			switch {
			case change == 0:
			case weight <= 0 && weight+change > 0:
				want = zset(entry(1, 1))
			case weight > 0 && weight+change <= 0:
				want = zset(entry(-1, 1))
			}
			what := fmt.Sprintf("DeltaDistinct of the weight %d and the change %d", weight, change)
			expectZSet(t, what, impl.DeltaDistinct(a, da), want)
			a, da = append(zset(entry(1, 0)), a...), append(zset(entry(-1, 0)), da...)
			expectZSet(t, what+", with another row", impl.DeltaDistinct(a, da), append(zset(entry(-1, 0)), want...))
		}
	}
}

func TestP41DeltaDistinctAtItsEdges(t *testing.T) {
	most := numbered(1, impl.MaxEntries, 1)
	one := zset(entry(1, 1))
	cases := []struct {
		name        string
		a, da, want []impl.Entry
	}{
		{"nothing", nil, nil, nil},
		{"no change", one, []impl.Entry{}, nil},
		{"other rows stay", zset(entry(1, 1), entry(1, 3)), zset(entry(1, 2)), zset(entry(1, 2))},
		{"a beginning of a row is another row", zset(entry(1, 1, 1)), zset(entry(1, 1, 2)), zset(entry(1, 1, 2))},
		{"the most rows come", nil, numbered(1, impl.MaxEntries, impl.MaxWeight), most},
		{"the most rows go", most, negated(most), negated(most)},
		{"half of the most rows go and others come", most, append(numbered(1, 200, -1), numbered(401, 600, 1)...), append(numbered(1, 200, -1), numbered(401, 600, 1)...)},
		{"the sum has too many rows", most, zset(entry(1, 0)), zset(entry(1, 0))},
		{"the sum has far too many rows", most, numbered(401, 800, 3), numbered(401, 800, 1)},
		{"the widest row", nil, zset(entry(2, repeated(impl.MaxWidth, 1)...)), zset(entry(1, repeated(impl.MaxWidth, 1)...))},
	}
	for _, c := range cases {
		expectZSet(t, "DeltaDistinct: "+c.name, impl.DeltaDistinct(c.a, c.da), c.want)
	}
}

func TestP41DeltaDistinctOfInvalidArguments(t *testing.T) {
	one, pair := zset(entry(1, 1)), zset(entry(1, 1, 2))
	for name, z := range invalidZSets() {
		expectZSet(t, "DeltaDistinct, a: "+name, impl.DeltaDistinct(z, zset(entry(1, 7))), nil)
		expectZSet(t, "DeltaDistinct, da: "+name, impl.DeltaDistinct(zset(entry(1, 7)), z), nil)
		expectZSet(t, "DeltaDistinct, da alone: "+name, impl.DeltaDistinct(nil, z), nil)
	}
	expectZSet(t, "DeltaDistinct, a is wider", impl.DeltaDistinct(pair, one), nil)
	expectZSet(t, "DeltaDistinct, da is wider", impl.DeltaDistinct(one, pair), nil)
	expectZSet(t, "DeltaDistinct, da is wider and negative", impl.DeltaDistinct(one, negated(pair)), nil)
}

func TestP42TheChangeOfAnAggregateIsExact(t *testing.T) {
	r := newRandom()
	for range 300 {
		width := between(r, 1, 3)
		a, da := randomZSet(r, width), randomZSet(r, width)
		for k := range width + 1 {
			changed := beginnings(da, k)
			for kind := 1; kind <= 4; kind++ {
				col := r.IntN(width)
				what := fmt.Sprintf("DeltaReduce(%v, %v, %d, %d, %d)", a, da, k, kind, col)
				change := impl.DeltaReduce(a, da, k, kind, col)
				expectZSet(t, what, change, minus(reduced(sumOf(a, da), k, kind, col), reduced(a, k, kind, col)))
				after := impl.Reduce(impl.Add(a, da), k, kind, col)
				expectZSet(t, what, change, impl.Add(after, impl.Negate(impl.Reduce(a, k, kind, col))))
				for _, e := range change {
					if !slices.ContainsFunc(changed, func(key []int) bool { return slices.Equal(key, e.Row[:k]) }) {
						t.Errorf("%s has the key of %v", what, e.Row)
					}
				}
				expectZSet(t, what+" without changes", impl.DeltaReduce(a, nil, k, kind, col), nil)
				expectZSet(t, what+" from nothing", impl.DeltaReduce(nil, da, k, kind, col), reduced(da, k, kind, col))
			}
		}
	}
}

func TestP42DeltaReduceAtItsEdges(t *testing.T) {
	z := zset(entry(1, 1, 4), entry(2, 1, 6), entry(1, 2, 5))
	cases := []struct {
		name  string
		a, da []impl.Entry
		kind  int
		want  []impl.Entry
	}{
		{"a group comes", z, zset(entry(2, 3, 7)), impl.Sum, zset(entry(1, 3, 14))},
		{"the first group comes", nil, zset(entry(2, 3, 7)), impl.Count, zset(entry(1, 3, 2))},
		{"a group goes", z, zset(entry(-1, 2, 5)), impl.Count, zset(entry(-1, 2, 1))},
		{"all groups go", z, negated(z), impl.Sum, zset(entry(-1, 1, 16), entry(-1, 2, 5))},
		{"the count becomes 0", z, zset(entry(-3, 1, 9)), impl.Count, zset(entry(-1, 1, 3))},
		{"the sum of a count 0 goes, too", z, zset(entry(-3, 1, 9)), impl.Sum, zset(entry(-1, 1, 16))},
		{"the count was 0", zset(entry(1, 1, 4), entry(-1, 1, 6)), zset(entry(1, 1, 6)), impl.Count, zset(entry(1, 1, 1))},
		{"no row with positive weight is left", z, zset(entry(-2, 2, 5)), impl.Maximum, zset(entry(-1, 2, 5))},
		{"the first row with positive weight", zset(entry(-1, 2, 5)), zset(entry(2, 2, 5)), impl.Minimum, zset(entry(1, 2, 5))},
		{"the minimum goes", z, zset(entry(-1, 1, 4)), impl.Minimum, zset(entry(-1, 1, 4), entry(1, 1, 6))},
		{"the maximum goes", z, zset(entry(-2, 1, 6)), impl.Maximum, zset(entry(1, 1, 4), entry(-1, 1, 6))},
		{"the minimum stays", z, zset(entry(-1, 1, 6)), impl.Minimum, nil},
		{"the minimum comes again", z, zset(entry(3, 1, 4)), impl.Minimum, nil},
		{"the count stays", z, zset(entry(-1, 1, 4), entry(1, 1, 5)), impl.Count, nil},
		{"the sum stays", z, zset(entry(1, 1, -6), entry(1, 1, 6)), impl.Sum, nil},
		{"the sum becomes 0", zset(entry(1, 1, 4)), zset(entry(1, 1, -4)), impl.Sum, zset(entry(1, 1, 0), entry(-1, 1, 4))},
		{"two groups change", z, zset(entry(1, 1, 5), entry(1, 2, 5)), impl.Count, zset(entry(-1, 1, 3), entry(1, 1, 4), entry(-1, 2, 1), entry(1, 2, 2))},
		{"nothing changes", z, []impl.Entry{}, impl.Count, nil},
		{"nothing", nil, nil, impl.Count, nil},
	}
	for _, c := range cases {
		expectZSet(t, "DeltaReduce: "+c.name, impl.DeltaReduce(c.a, c.da, 1, c.kind, 1), c.want)
	}
	expectZSet(t, "DeltaReduce without a key", impl.DeltaReduce(z, zset(entry(2, 3, 7)), 0, impl.Sum, 1), zset(entry(-1, 21), entry(1, 35)))
	expectZSet(t, "DeltaReduce on all columns", impl.DeltaReduce(z, zset(entry(2, 1, 6)), 2, impl.Count, 0), zset(entry(-1, 1, 6, 2), entry(1, 1, 6, 4)))
	expectZSet(t, "DeltaReduce of a column of the key", impl.DeltaReduce(z, zset(entry(2, 1, 6)), 1, impl.Sum, 0), zset(entry(-1, 1, 3), entry(1, 1, 5)))
}

func TestP42OnlyTheChangedGroupsCount(t *testing.T) {
	top, big := impl.MaxValue, impl.MaxWeight
	most := grouped(1, 1, impl.MaxEntries, 1)
	cases := []struct {
		name  string
		a, da []impl.Entry
		kind  int
		want  []impl.Entry
	}{
		{"another group has a count too large", zset(entry(top+1, 1, 1), entry(1, 2, 1)), zset(entry(1, 2, 1)), impl.Count, zset(entry(-1, 2, 1), entry(1, 2, 2))},
		{"another group has a sum too small", zset(entry(-2, 1, top), entry(1, 2, 1)), zset(entry(-1, 2, 1)), impl.Sum, zset(entry(-1, 2, 1))},
		{"the largest count afterwards", zset(entry(top-1, 1, 1), entry(1, 2, 1)), grouped(1, 1, 1, 1), impl.Count, zset(entry(-1, 1, top-1), entry(1, 1, top))},
		{"a count too large afterwards", zset(entry(top, 1, 1), entry(1, 2, 1)), zset(entry(1, 1, 1), entry(1, 2, 1)), impl.Count, zset(entry(-1, 1, top), entry(-1, 2, 1))},
		{"a count too large before", zset(entry(top+1, 1, 1), entry(1, 2, 1)), zset(entry(-1, 1, 1), entry(1, 2, 1)), impl.Count, zset(entry(1, 1, top), entry(1, 2, 2))},
		{"a count too large before and afterwards", zset(entry(top+2, 1, 1), entry(1, 2, 1)), zset(entry(-1, 1, 1), entry(1, 2, 1)), impl.Count, nil},
		{"the largest weight", zset(entry(big-1, 1, 3), entry(1, 2, 1)), zset(entry(1, 1, 2), entry(1, 1, 3)), impl.Minimum, zset(entry(1, 1, 2), entry(-1, 1, 3))},
		{"a weight too large", zset(entry(big, 1, 3), entry(1, 2, 1)), zset(entry(1, 1, 2), entry(1, 1, 3)), impl.Minimum, zset(entry(-1, 1, 3))},
		{"the most rows", most[1:], most[:1], impl.Minimum, zset(entry(1, 1, 1), entry(-1, 1, 2))},
		{"too many rows", most, zset(entry(1, 1, 0)), impl.Minimum, zset(entry(-1, 1, 1))},
		{"too many rows in all groups", append(most[1:], entry(1, 2, 5)), zset(entry(1, 2, 4)), impl.Minimum, zset(entry(1, 2, 4), entry(-1, 2, 5))},
	}
	for _, c := range cases {
		expectZSet(t, "DeltaReduce: "+c.name, impl.DeltaReduce(c.a, c.da, 1, c.kind, 1), c.want)
	}
}

func TestP42DeltaReduceLimitsTheEntries(t *testing.T) {
	half := impl.MaxEntries / 2
	groups := numbered(1, half, 1)
	var want []impl.Entry
	for _, e := range groups {
		want = append(want, entry(-1, e.Row[0], 1), entry(1, e.Row[0], 2))
	}
	expectZSet(t, "DeltaReduce with the most changes", impl.DeltaReduce(groups, groups, 1, impl.Count, 0), want)
	more := append(groups, entry(1, half+1))
	expectZSet(t, "DeltaReduce with a change too many", impl.DeltaReduce(groups, more, 1, impl.Count, 0), nil)
	most := numbered(1, impl.MaxEntries, 1)
	expectZSet(t, "DeltaReduce with the most groups", impl.DeltaReduce(nil, most, 1, impl.Count, 0), reduced(most, 1, impl.Count, 0))
	expectZSet(t, "DeltaReduce, the most groups go", impl.DeltaReduce(most, negated(most), 1, impl.Count, 0), negated(reduced(most, 1, impl.Count, 0)))
}

func TestP42DeltaReduceOfInvalidArguments(t *testing.T) {
	z, pair := zset(entry(1, 1, 5)), zset(entry(2, 1, 6))
	one := zset(entry(1, 7))
	for kind := 1; kind <= 4; kind++ {
		for _, k := range badNumbersOfColumns(2) {
			expectZSet(t, fmt.Sprint("DeltaReduce on ", k), impl.DeltaReduce(z, pair, k, kind, 0), nil)
			expectZSet(t, fmt.Sprint("DeltaReduce from nothing on ", k), impl.DeltaReduce(nil, pair, k, kind, 0), nil)
			expectZSet(t, fmt.Sprint("DeltaReduce without a change on ", k), impl.DeltaReduce(z, nil, k, kind, 0), nil)
			expectZSet(t, fmt.Sprint("DeltaReduce of nothing on ", k), impl.DeltaReduce(nil, nil, k, kind, 0), nil)
		}
		for _, col := range append(badNumbersOfColumns(2), 2) {
			expectZSet(t, fmt.Sprint("DeltaReduce of the column ", col), impl.DeltaReduce(z, pair, 1, kind, col), nil)
			expectZSet(t, fmt.Sprint("DeltaReduce from nothing, column ", col), impl.DeltaReduce(nil, pair, 1, kind, col), nil)
		}
		widest, last := zset(entry(1, repeated(impl.MaxWidth, 1)...)), impl.MaxWidth-1
		expectZSet(t, "DeltaReduce with the longest key", impl.DeltaReduce(nil, widest, last, kind, last), widest)
		expectZSet(t, "DeltaReduce with a key that is too long", impl.DeltaReduce(nil, widest, impl.MaxWidth, kind, last), nil)
		for name, invalid := range invalidZSets() {
			for k := range 2 {
				expectZSet(t, "DeltaReduce, a: "+name, impl.DeltaReduce(invalid, one, k, kind, 0), nil)
				expectZSet(t, "DeltaReduce, da: "+name, impl.DeltaReduce(one, invalid, k, kind, 0), nil)
				expectZSet(t, "DeltaReduce, da alone: "+name, impl.DeltaReduce(nil, invalid, k, kind, 0), nil)
			}
		}
		expectZSet(t, "DeltaReduce, a is wider", impl.DeltaReduce(z, one, 0, kind, 0), nil)
		expectZSet(t, "DeltaReduce, da is wider", impl.DeltaReduce(one, z, 0, kind, 0), nil)
	}
	for _, kind := range []int{0, 5, -1, math.MaxInt, math.MinInt} {
		expectZSet(t, fmt.Sprint("DeltaReduce with the kind ", kind), impl.DeltaReduce(z, pair, 1, kind, 1), nil)
	}
}

func TestDeltaFunctionsReturnNewMemory(t *testing.T) {
	a, da := zset(entry(2, 1, 2), entry(-2, 1, 3), entry(3, 5, 0)), zset(entry(-2, 1, 2), entry(3, 1, 3), entry(1, 7, 0))
	b, db := zset(entry(1, 1, 7), entry(4, 5, 9)), zset(entry(3, 1, 8), entry(-4, 5, 9))
	for k := range 2 {
		expectFresh(t, "DeltaJoin", impl.DeltaJoin, a, da, b, db, k)
		expectFresh(t, "DeltaReduce", impl.DeltaReduce, a, da, k, impl.Count, 1)
	}
	expectFresh(t, "DeltaJoin of the rows of da", impl.DeltaJoin, nil, da, zset(entry(1, 1)), nil, 1)
	expectFresh(t, "DeltaJoin of the rows of a", impl.DeltaJoin, a, nil, nil, zset(entry(1, 1)), 1)
	expectFresh(t, "DeltaDistinct", impl.DeltaDistinct, a, da)
	expectFresh(t, "DeltaDistinct of da alone", impl.DeltaDistinct, nil, da)
	expectFresh(t, "DeltaReduce of da alone", impl.DeltaReduce, nil, da, 1, impl.Maximum, 1)
}
