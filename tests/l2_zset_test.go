package tests

import (
	"math"
	"slices"
	"testing"

	"loop.example/dataflow/impl"
)

func TestLimitsOfZSets(t *testing.T) {
	if impl.MaxEntries != 400 || impl.MaxWeight != 1000000 {
		t.Errorf("MaxEntries = %d, MaxWeight = %d", impl.MaxEntries, impl.MaxWeight)
	}
	valid := map[string][]impl.Entry{
		"nil":                nil,
		"empty":              {},
		"one entry":          zset(entry(1, 1)),
		"the most entries":   numbered(1, impl.MaxEntries, 1),
		"the largest weight": zset(entry(impl.MaxWeight, 1), entry(-impl.MaxWeight, 2)),
		"the widest rows":    zset(entry(1, repeated(impl.MaxWidth, -impl.MaxValue)...), entry(-1, repeated(impl.MaxWidth, impl.MaxValue)...)),
		"negative weights":   zset(entry(-3, -2, 9), entry(2, -2, 10), entry(-1, 1, 0)),
	}
	for name, z := range valid {
		expectBool(t, "ValidZSet: "+name, impl.ValidZSet(z), true)
	}
	for name, z := range invalidZSets() {
		expectBool(t, "ValidZSet: "+name, impl.ValidZSet(z), false)
	}
}

func TestInvalidZSetsHaveFixedResults(t *testing.T) {
	for name, z := range invalidZSets() {
		expectZSet(t, "Add on the left: "+name, impl.Add(z, zset(entry(1, 3))), nil)
		expectZSet(t, "Add on the right: "+name, impl.Add(zset(entry(1, 3)), z), nil)
		expectZSet(t, "Add of nothing: "+name, impl.Add(z, nil), nil)
		expectZSet(t, "Add to nothing: "+name, impl.Add(nil, z), nil)
		expectZSet(t, "Negate: "+name, impl.Negate(z), nil)
		expectZSet(t, "Distinct: "+name, impl.Distinct(z), nil)
		expectBool(t, "IsSet: "+name, impl.IsSet(z), false)
		if total := impl.TotalWeight(z); total != 0 {
			t.Errorf("TotalWeight: %s = %d", name, total)
		}
		for _, e := range z {
			if weight := impl.WeightOf(z, e.Row); weight != 0 {
				t.Errorf("WeightOf: %s, %v = %d", name, e.Row, weight)
			}
		}
	}
}

func TestP05AZSetIsItsOwnNormalForm(t *testing.T) {
	r := newRandom()
	for range 300 {
		z := randomZSet(r, between(r, 1, 3))
		expectZSet(t, "Normalize of a Z-set", impl.Normalize(z), z)
		entries := randomEntries(r, r.IntN(40), between(r, 1, 2))
		sums := impl.Normalize(entries)
		expectBool(t, "ValidZSet of Normalize", impl.ValidZSet(sums), true)
		expectZSet(t, "Normalize", sums, sumOf(entries))
	}
	most := numbered(1, impl.MaxEntries, impl.MaxWeight)
	expectZSet(t, "Normalize of the largest Z-set", impl.Normalize(most), most)
	expectZSet(t, "Normalize of nothing", impl.Normalize(nil), nil)
}

func TestP05NormalizeAtItsEdges(t *testing.T) {
	big := impl.MaxWeight
	cases := []struct {
		name    string
		entries []impl.Entry
		want    []impl.Entry
	}{
		{"all cancel", zset(entry(2, 1), entry(-2, 1)), nil},
		{"weight 0", zset(entry(0, 1)), nil},
		{"a sum that is 0 on the way", zset(entry(1, 1), entry(-1, 1), entry(2, 1)), zset(entry(2, 1))},
		{"another width cancels", zset(entry(2, 1), entry(3, 1, 2), entry(-2, 1)), zset(entry(3, 1, 2))},
		{"another width has the weight 0", zset(entry(0, 1), entry(3, 1, 2)), zset(entry(3, 1, 2))},
		{"widths differ", zset(entry(2, 1), entry(3, 1, 2)), nil},
		{"widths differ in the last row", zset(entry(2, 1, 2), entry(3, 4)), nil},
		{"the largest sum", zset(entry(big-1, 1), entry(1, 1)), zset(entry(big, 1))},
		{"the smallest sum", zset(entry(-big+1, 1), entry(-1, 1)), zset(entry(-big, 1))},
		{"a sum too large", zset(entry(big, 1), entry(1, 1), entry(1, 2)), nil},
		{"a sum too small", zset(entry(1, 2), entry(-big, 1), entry(-1, 1)), nil},
		{"a sum too large on the way", zset(entry(big, 1), entry(big, 1), entry(-big, 1)), zset(entry(big, 1))},
		{"a weight too large", zset(entry(big+1, 1), entry(-1, 1)), nil},
		{"a weight too small", zset(entry(-big-1, 1), entry(1, 1)), nil},
		{"the largest int", zset(entry(math.MaxInt, 1), entry(math.MinInt, 1), entry(1, 2)), nil},
	}
	for _, c := range cases {
		expectZSet(t, "Normalize: "+c.name, impl.Normalize(c.entries), c.want)
		slices.Reverse(c.entries)
		expectZSet(t, "Normalize reversed: "+c.name, impl.Normalize(c.entries), c.want)
	}
	for name, row := range invalidRows() {
		entries := zset(entry(1, 3), entry(1, row...), entry(-1, row...))
		expectZSet(t, "Normalize: row "+name, impl.Normalize(entries), nil)
		expectZSet(t, "Normalize: weight 0, row "+name, impl.Normalize(zset(entry(1, 3), entry(0, row...))), nil)
	}
}

func TestP05NormalizeLimitsTheEntries(t *testing.T) {
	most := slices.Repeat(zset(entry(1, 1)), impl.MaxEntries)
	expectZSet(t, "Normalize of the most entries", impl.Normalize(most), zset(entry(impl.MaxEntries, 1)))
	expectZSet(t, "Normalize of one entry more", impl.Normalize(append(most, entry(1, 1))), nil)
	zeros := slices.Repeat(zset(entry(0, 1)), impl.MaxEntries+1)
	expectZSet(t, "Normalize of too many weights 0", impl.Normalize(append(zeros, entry(1, 1))), nil)
}

func TestP06TheOrderOfEntriesDoesNotMatter(t *testing.T) {
	r := newRandom()
	for range 300 {
		entries := randomEntries(r, r.IntN(40), between(r, 1, 2))
		want := impl.Normalize(entries)
		reversed := slices.Clone(entries)
		slices.Reverse(reversed)
		expectZSet(t, "Normalize of the reversed list", impl.Normalize(reversed), want)
		r.Shuffle(len(entries), func(i int, j int) { entries[i], entries[j] = entries[j], entries[i] })
		expectZSet(t, "Normalize of a shuffled list", impl.Normalize(entries), want)
		expectZSet(t, "Normalize of a shuffled list", want, sumOf(entries))
	}
}

func TestP07ZSetsAreAGroup(t *testing.T) {
	r := newRandom()
	for range 300 {
		width := between(r, 1, 3)
		a, b := randomZSet(r, width), randomZSet(r, width)
		expectZSet(t, "Add", impl.Add(a, b), sumOf(a, b))
		expectZSet(t, "Add exchanged", impl.Add(b, a), impl.Add(a, b))
		expectZSet(t, "Add of nothing", impl.Add(a, nil), a)
		expectZSet(t, "Add to nothing", impl.Add([]impl.Entry{}, a), a)
		expectZSet(t, "Add of the negated Z-set", impl.Add(a, impl.Negate(a)), nil)
		expectZSet(t, "Add to the negated Z-set", impl.Add(impl.Negate(a), a), nil)
	}
}

func TestP07AddAtItsEdges(t *testing.T) {
	big := impl.MaxWeight
	most := numbered(1, impl.MaxEntries, 1)
	cases := []struct {
		name string
		a, b []impl.Entry
		want []impl.Entry
	}{
		{"widths differ", zset(entry(1, 1)), zset(entry(1, 1, 2)), nil},
		{"widths differ and rows are apart", zset(entry(1, 5)), zset(entry(1, 1, 2)), nil},
		{"the largest sum", zset(entry(big-1, 1)), zset(entry(1, 1)), zset(entry(big, 1))},
		{"the smallest sum", zset(entry(1-big, 1)), zset(entry(-1, 1)), zset(entry(-big, 1))},
		{"a sum too large", zset(entry(big, 1), entry(1, 2)), zset(entry(1, 1)), nil},
		{"a sum too small", zset(entry(-big, 1), entry(1, 2)), zset(entry(-1, 1)), nil},
		{"the most entries", numbered(2, impl.MaxEntries, 1), zset(entry(1, 1)), most},
		{"one entry too many", most, zset(entry(1, 0)), nil},
		{"one entry too many at last", most, zset(entry(1, impl.MaxEntries+1)), nil},
		{"one entry cancels", most, zset(entry(1, 0), entry(-1, impl.MaxEntries)), numbered(0, impl.MaxEntries-1, 1)},
		{"all entries cancel", most, numbered(1, impl.MaxEntries, -1), nil},
		{"all entries are in both", most, most, numbered(1, impl.MaxEntries, 2)},
	}
	for _, c := range cases {
		expectZSet(t, "Add: "+c.name, impl.Add(c.a, c.b), c.want)
		expectZSet(t, "Add exchanged: "+c.name, impl.Add(c.b, c.a), c.want)
	}
	widest := zset(entry(big, repeated(impl.MaxWidth, impl.MaxValue)...))
	expectZSet(t, "Add of the widest rows", impl.Add(widest, nil), widest)
}

func TestP08AdditionIsAssociative(t *testing.T) {
	r := newRandom()
	for range 300 {
		width := between(r, 1, 2)
		a, b, c := randomZSet(r, width), randomZSet(r, width), randomZSet(r, width)
		left := impl.Add(impl.Add(a, b), c)
		expectZSet(t, "Add of the sum of the last two", impl.Add(a, impl.Add(b, c)), left)
		expectZSet(t, "Add of three", left, sumOf(a, b, c))
	}
}

func TestP09NegationIsAnInvolution(t *testing.T) {
	r := newRandom()
	for range 300 {
		z := randomZSet(r, between(r, 1, 3))
		negated := impl.Negate(z)
		total := 0
		for i, e := range z {
			total += e.Weight
			if i >= len(negated) || !sameEntry(negated[i], entry(-e.Weight, e.Row...)) {
				t.Fatalf("Negate(%v) = %v", z, negated)
			}
		}
		expectZSet(t, "Negate of Negate", impl.Negate(negated), z)
		if impl.TotalWeight(z) != total || impl.TotalWeight(negated) != -total {
			t.Errorf("TotalWeight of %v = %d, negated %d", z, impl.TotalWeight(z), impl.TotalWeight(negated))
		}
	}
	extreme := zset(entry(impl.MaxWeight, 1), entry(-impl.MaxWeight, 2))
	expectZSet(t, "Negate of extreme weights", impl.Negate(extreme), zset(entry(-impl.MaxWeight, 1), entry(impl.MaxWeight, 2)))
	if total := impl.TotalWeight(numbered(1, impl.MaxEntries, impl.MaxWeight)); total != impl.MaxEntries*impl.MaxWeight {
		t.Errorf("TotalWeight of the largest Z-set = %d", total)
	}
	if len(impl.Negate(nil)) != 0 || impl.TotalWeight(nil) != 0 {
		t.Error("Negate or TotalWeight of the empty Z-set")
	}
}

func TestP10WeightsAddUp(t *testing.T) {
	r := newRandom()
	for range 300 {
		width := between(r, 1, 2)
		a, b := randomZSet(r, width), randomZSet(r, width)
		sum := impl.Add(a, b)
		for _, e := range slices.Concat(a, b) {
			if impl.WeightOf(sum, e.Row) != impl.WeightOf(a, e.Row)+impl.WeightOf(b, e.Row) {
				t.Errorf("WeightOf(%v + %v, %v) = %d", a, b, e.Row, impl.WeightOf(sum, e.Row))
			}
		}
		for range 10 {
			row := randomList(r, width, 2)
			i := slices.IndexFunc(a, func(e impl.Entry) bool { return slices.Equal(e.Row, row) })
			if weight := impl.WeightOf(a, row); (weight != 0) != (i >= 0) || i >= 0 && weight != a[i].Weight {
				t.Errorf("WeightOf(%v, %v) = %d", a, row, weight)
			}
		}
	}
}

func TestP10OtherRowsHaveTheWeight0(t *testing.T) {
	z := zset(entry(5, 1, 2), entry(-7, 1, 3), entry(9, 4, 0))
	for _, row := range [][]int{nil, {}, {1}, {4}, {1, 2, 3}, {1, 2, 0}, {1, 4}, {0, 0}, {9, 9}, {1, impl.MaxValue + 1}, repeated(impl.MaxWidth+1, 1)} {
		if weight := impl.WeightOf(z, row); weight != 0 {
			t.Errorf("WeightOf(%v, %v) = %d", z, row, weight)
		}
		if weight := impl.WeightOf(nil, row); weight != 0 {
			t.Errorf("WeightOf of %v in the empty Z-set = %d", row, weight)
		}
	}
	if impl.WeightOf(z, []int{1, 2}) != 5 || impl.WeightOf(z, []int{1, 3}) != -7 || impl.WeightOf(z, []int{4, 0}) != 9 {
		t.Error("WeightOf of the rows of a Z-set")
	}
}

func TestP11DistinctIsIdempotentAndGivesSets(t *testing.T) {
	r := newRandom()
	for range 300 {
		z := randomZSet(r, between(r, 1, 3))
		var want []impl.Entry
		all := true
		for _, e := range z {
			all = all && e.Weight == 1
			if e.Weight > 0 {
				want = append(want, entry(1, e.Row...))
			}
		}
		set := impl.Distinct(z)
		expectZSet(t, "Distinct", set, want)
		expectBool(t, "IsSet of Distinct", impl.IsSet(set), true)
		expectZSet(t, "Distinct of a set", impl.Distinct(set), set)
		expectBool(t, "IsSet", impl.IsSet(z), all)
	}
}

func TestP11SetsAtTheirEdges(t *testing.T) {
	z := zset(entry(impl.MaxWeight, 1), entry(-impl.MaxWeight, 2), entry(1, 3), entry(-1, 4))
	expectZSet(t, "Distinct", impl.Distinct(z), zset(entry(1, 1), entry(1, 3)))
	expectZSet(t, "Distinct of negative weights", impl.Distinct(numbered(1, 3, -1)), nil)
	expectZSet(t, "Distinct of nothing", impl.Distinct(nil), nil)
	most := numbered(1, impl.MaxEntries, 1)
	expectZSet(t, "Distinct of the largest set", impl.Distinct(most), most)
	expectBool(t, "IsSet of the largest set", impl.IsSet(most), true)
	expectBool(t, "IsSet of nothing", impl.IsSet(nil), true)
	expectBool(t, "IsSet of the weight 2", impl.IsSet(zset(entry(1, 1), entry(2, 2))), false)
	expectBool(t, "IsSet of the weight -1", impl.IsSet(zset(entry(1, 1), entry(-1, 2))), false)
}

func TestZSetFunctionsReturnNewMemory(t *testing.T) {
	a := zset(entry(2, 1, 2), entry(-3, 1, 3), entry(4, 5, 0))
	b := zset(entry(1, 0, 0), entry(3, 1, 3), entry(4, 5, 1))
	mixed := zset(entry(4, 5, 0), entry(1, 1, 2), entry(-3, 1, 3), entry(1, 1, 2), entry(0, 0, 0))
	expectFresh(t, "Normalize", impl.Normalize, mixed)
	expectFresh(t, "Normalize of a Z-set", impl.Normalize, a)
	expectFresh(t, "Add", impl.Add, a, b)
	expectFresh(t, "Add of nothing", impl.Add, a, nil)
	expectFresh(t, "Add to nothing", impl.Add, nil, a)
	expectFresh(t, "Negate", impl.Negate, a)
	expectFresh(t, "Distinct", impl.Distinct, a)
}
