package tests

import (
	"fmt"
	"math"
	"slices"
	"testing"

	"loop.example/dataflow/impl"
)

// joined is the reference for Join.
func joined(a []impl.Entry, b []impl.Entry, k int) []impl.Entry {
	var list []impl.Entry
	for _, x := range a {
		for _, y := range b {
			if slices.Equal(x.Row[:k], y.Row[:k]) {
				list = append(list, entry(x.Weight*y.Weight, slices.Concat(x.Row, y.Row[k:])...))
			}
		}
	}
	return sumOf(list)
}

// hasKey is the reference for Keys: it reports whether a row with positive weight begins with the key.
func hasKey(z []impl.Entry, key []int) bool {
	return slices.ContainsFunc(z, func(e impl.Entry) bool {
		return e.Weight > 0 && slices.Equal(e.Row[:len(key)], key)
	})
}

// inGroup returns the entries whose rows begin with the key.
func inGroup(z []impl.Entry, key []int) []impl.Entry {
	var group []impl.Entry
	for _, e := range z {
		if slices.Equal(e.Row[:len(key)], key) {
			group = append(group, e)
		}
	}
	return group
}

// anyKeys returns keys with values that rows of random Z-sets have, and with others.
func anyKeys(width int) [][]int {
	keys := [][]int{{}}
	for range width {
		var longer [][]int
		for _, key := range keys {
			for value := -3; value <= 3; value++ {
				longer = append(longer, append(slices.Clone(key), value))
			}
		}
		keys = longer
	}
	return keys
}

func badNumbersOfColumns(width int) []int {
	return []int{-1, width + 1, impl.MaxWidth + 1, math.MaxInt, math.MinInt}
}

func TestP30AJoinMultipliesWeights(t *testing.T) {
	r := newRandom()
	for range 300 {
		a, b := randomZSet(r, between(r, 1, 3)), randomZSet(r, between(r, 1, 3))
		product := impl.Join(a, b, 0)
		expectZSet(t, "Join on no columns", product, joined(a, b, 0))
		if impl.TotalWeight(product) != impl.TotalWeight(a)*impl.TotalWeight(b) {
			t.Errorf("TotalWeight of Join(%v, %v, 0) = %d", a, b, impl.TotalWeight(product))
		}
	}
}

func TestP30TheBeginningOfEachRowIsInA(t *testing.T) {
	r := newRandom()
	for range 300 {
		widthA, widthB := between(r, 1, 3), between(r, 1, 3)
		a, b := randomZSet(r, widthA), randomZSet(r, widthB)
		for k := range min(widthA, widthB) + 1 {
			for _, e := range impl.Join(a, b, k) {
				right := slices.Concat(e.Row[:k], e.Row[widthA:])
				if e.Weight != impl.WeightOf(a, e.Row[:widthA])*impl.WeightOf(b, right) {
					t.Errorf("Join(%v, %v, %d) has %v", a, b, k, e)
				}
			}
			expectZSet(t, "Join", impl.Join(a, b, k), joined(a, b, k))
		}
	}
}

func TestP30JoinAtItsEdges(t *testing.T) {
	big := impl.MaxWeight
	one := zset(entry(1, 1))
	most := numbered(1, impl.MaxEntries, 1)
	cases := []struct {
		name string
		a, b []impl.Entry
		k    int
		want []impl.Entry
	}{
		{"the document's order of columns", zset(entry(2, 1, 5), entry(3, 2, 6)), zset(entry(-1, 1, 7, 8), entry(4, 2, 9, 9)), 1, zset(entry(-2, 1, 5, 7, 8), entry(12, 2, 6, 9, 9))},
		{"no common keys", zset(entry(2, 1, 5)), zset(entry(2, 5, 1)), 1, nil},
		{"negative weights", zset(entry(-2, 1)), zset(entry(-3, 1)), 1, zset(entry(6, 1))},
		{"the whole width of both", zset(entry(2, 1, 5), entry(3, 1, 6)), zset(entry(4, 1, 6), entry(5, 1, 7)), 2, zset(entry(12, 1, 6))},
		{"the whole width of a", one, zset(entry(2, 1, 5), entry(3, 1, 6)), 1, zset(entry(2, 1, 5), entry(3, 1, 6))},
		{"the whole width of b", zset(entry(2, 1, 5), entry(3, 1, 6)), one, 1, zset(entry(2, 1, 5), entry(3, 1, 6))},
		{"no key and one row", one, zset(entry(3, 2), entry(4, 5)), 0, zset(entry(3, 1, 2), entry(4, 1, 5))},
		{"a key of 0 and a shorter key", zset(entry(1, 0), entry(1, 1)), zset(entry(1, 0, 0)), 1, zset(entry(1, 0, 0))},
		{"a is empty", nil, one, 1, nil},
		{"b is empty", one, nil, 1, nil},
		{"both are empty", nil, nil, 0, nil},
		{"a is empty without a key", nil, one, 0, nil},
		{"b is empty without a key", one, []impl.Entry{}, 0, nil},
		{"the largest product", zset(entry(big/2, 1)), zset(entry(2, 1)), 1, zset(entry(big, 1))},
		{"the smallest product", zset(entry(big/2, 1)), zset(entry(-2, 1)), 1, zset(entry(-big, 1))},
		{"a product too large", zset(entry(big/2+1, 1), entry(1, 2)), zset(entry(2, 1), entry(1, 2)), 1, nil},
		{"a product too small", zset(entry(big/2+1, 1), entry(1, 2)), zset(entry(-2, 1), entry(1, 2)), 1, nil},
		{"the largest weights", zset(entry(big, 1)), zset(entry(big, 1)), 1, nil},
		{"the largest weights of different keys", zset(entry(big, 1), entry(1, 2)), zset(entry(1, 1), entry(big, 2)), 1, zset(entry(big, 1), entry(big, 2))},
		{"the most entries", numbered(1, 20, 1), numbered(1, impl.MaxEntries/20, 1), 0, joined(numbered(1, 20, 1), numbered(1, impl.MaxEntries/20, 1), 0)},
		{"the most entries of one", most, one, 0, joined(most, one, 0)},
		{"one entry too many", append(numbered(1, 20, 1), entry(1, 21, 0)), numbered(1, 20, 1), 0, nil},
		{"too many entries", numbered(1, 3, 1), numbered(1, impl.MaxEntries/3+1, 1), 0, nil},
		{"far too many entries", most, most, 0, nil},
		{"the most entries with keys", most, most, 1, most},
	}
	for _, c := range cases {
		expectZSet(t, "Join: "+c.name, impl.Join(c.a, c.b, c.k), c.want)
	}
}

func TestP30JoinLimitsTheWidth(t *testing.T) {
	for widthA := 1; widthA <= impl.MaxWidth; widthA++ {
		for widthB := 1; widthB <= impl.MaxWidth; widthB++ {
			a, b := zset(entry(2, repeated(widthA, 1)...)), zset(entry(3, repeated(widthB, 1)...))
			for k := range min(widthA, widthB) + 1 {
				var want []impl.Entry
				if width := widthA + widthB - k; width <= impl.MaxWidth {
					want = zset(entry(6, repeated(width, 1)...))
				}
				expectZSet(t, fmt.Sprintf("Join of the widths %d and %d on %d", widthA, widthB, k), impl.Join(a, b, k), want)
			}
			for _, k := range badNumbersOfColumns(min(widthA, widthB)) {
				expectZSet(t, fmt.Sprintf("Join of the widths %d and %d on %d", widthA, widthB, k), impl.Join(a, b, k), nil)
			}
		}
	}
}

func TestP30JoinOfInvalidZSets(t *testing.T) {
	one := zset(entry(1, 1))
	for name, z := range invalidZSets() {
		for k := range 2 {
			expectZSet(t, "Join, a: "+name, impl.Join(z, one, k), nil)
			expectZSet(t, "Join, b: "+name, impl.Join(one, z, k), nil)
			expectZSet(t, "Join, both: "+name, impl.Join(z, z, k), nil)
		}
	}
}

func TestP31AJoinIsLinearInEachArgument(t *testing.T) {
	r := newRandom()
	for range 300 {
		widthA, widthC := between(r, 1, 3), between(r, 1, 3)
		a, b, c := randomZSet(r, widthA), randomZSet(r, widthA), randomZSet(r, widthC)
		for k := range min(widthA, widthC) + 1 {
			left := impl.Join(impl.Add(a, b), c, k)
			expectZSet(t, "Join of a sum", left, impl.Add(impl.Join(a, c, k), impl.Join(b, c, k)))
			expectZSet(t, "Join of a sum", left, sumOf(joined(a, c, k), joined(b, c, k)))
			right := impl.Join(c, impl.Add(a, b), k)
			expectZSet(t, "Join with a sum", right, impl.Add(impl.Join(c, a, k), impl.Join(c, b, k)))
			expectZSet(t, "Join with a sum", right, sumOf(joined(c, a, k), joined(c, b, k)))
		}
	}
}

func TestP32BothSidesOfAJoinAreSymmetric(t *testing.T) {
	r := newRandom()
	for range 300 {
		widthA, widthB := between(r, 1, 3), between(r, 1, 3)
		a, b := randomZSet(r, widthA), randomZSet(r, widthB)
		for k := range min(widthA, widthB) + 1 {
			one, other := impl.Join(a, b, k), impl.Join(b, a, k)
			if len(one) != len(other) || impl.TotalWeight(one) != impl.TotalWeight(other) {
				t.Errorf("Join(%v, %v, %d) = %v, exchanged %v", a, b, k, one, other)
			}
			// The columns behind the key change their places.
			var cols []int
			for i := range widthA + widthB - k {
				switch {
				case i < k:
					cols = append(cols, i)
				case i < widthA:
					cols = append(cols, i+widthB-k)
				default:
					cols = append(cols, i-widthA+k)
				}
			}
			expectZSet(t, "Join exchanged", impl.MapColumns(other, cols), one)
		}
	}
}

func TestP33KeysAreTheDistinctBeginnings(t *testing.T) {
	r := newRandom()
	for range 100 {
		width := between(r, 1, 3)
		z := randomZSet(r, width)
		for k := 1; k <= width; k++ {
			var want []impl.Entry
			for _, key := range anyKeys(k) {
				if hasKey(z, key) {
					want = append(want, entry(1, key...))
				}
			}
			keys := impl.Keys(z, k)
			expectZSet(t, "Keys", keys, want)
			expectBool(t, "IsSet of Keys", impl.IsSet(keys), true)
		}
		expectZSet(t, "Keys of the whole width", impl.Keys(z, width), impl.Distinct(z))
	}
}

func TestP33KeysAtTheirEdges(t *testing.T) {
	z := zset(entry(-5, 1, 1), entry(2, 1, 2), entry(-3, 2, 1), entry(1, 3, 1), entry(1, 3, 2))
	expectZSet(t, "Keys", impl.Keys(z, 1), zset(entry(1, 1), entry(1, 3)))
	expectZSet(t, "Keys of rows that cancel", impl.Keys(zset(entry(-1, 1, 1), entry(1, 1, 2)), 1), zset(entry(1, 1)))
	expectZSet(t, "Keys of negative weights", impl.Keys(numbered(1, 3, -1), 1), nil)
	expectZSet(t, "Keys of nothing", impl.Keys(nil, 1), nil)
	var group []impl.Entry
	for i := range impl.MaxEntries {
		group = append(group, entry(impl.MaxWeight, 7, i))
	}
	expectZSet(t, "Keys of the largest group", impl.Keys(group, 1), zset(entry(1, 7)))
	most := numbered(1, impl.MaxEntries, 1)
	expectZSet(t, "Keys of the most entries", impl.Keys(most, 1), most)
	widest := zset(entry(3, repeated(impl.MaxWidth, 1)...))
	expectZSet(t, "Keys of the widest row", impl.Keys(widest, impl.MaxWidth), zset(entry(1, repeated(impl.MaxWidth, 1)...)))
	for _, k := range append(badNumbersOfColumns(2), 0) {
		expectZSet(t, fmt.Sprint("Keys of ", k, " columns"), impl.Keys(z, k), nil)
	}
	for name, invalid := range invalidZSets() {
		expectZSet(t, "Keys: "+name, impl.Keys(invalid, 1), nil)
	}
}

func TestP34SemijoinAndAntijoinDivideAZSet(t *testing.T) {
	r := newRandom()
	for range 300 {
		widthA, widthB := between(r, 1, 3), between(r, 1, 3)
		a, b := randomZSet(r, widthA), randomZSet(r, widthB)
		for k := 1; k <= min(widthA, widthB); k++ {
			var in, out []impl.Entry
			for _, e := range a {
				if hasKey(b, e.Row[:k]) {
					in = append(in, e)
				} else {
					out = append(out, e)
				}
			}
			semi, anti := impl.SemiJoin(a, b, k), impl.AntiJoin(a, b, k)
			expectZSet(t, "SemiJoin", semi, in)
			expectZSet(t, "AntiJoin", anti, out)
			expectZSet(t, "SemiJoin and AntiJoin", impl.Add(semi, anti), a)
			expectZSet(t, "SemiJoin of SemiJoin", impl.SemiJoin(semi, b, k), semi)
			expectZSet(t, "SemiJoin of AntiJoin", impl.SemiJoin(anti, b, k), nil)
		}
	}
}

func TestP34SemijoinAndAntijoinAtTheirEdges(t *testing.T) {
	a := zset(entry(-2, 1, 5), entry(3, 1, 6), entry(4, 2, 5))
	cases := []struct {
		name      string
		b         []impl.Entry
		k         int
		semi, not []impl.Entry
	}{
		{"one key", zset(entry(1, 1)), 1, a[:2], a[2:]},
		{"a key with a large weight", zset(entry(impl.MaxWeight, 1)), 1, a[:2], a[2:]},
		{"a key with negative weight", zset(entry(-1, 1)), 1, nil, a},
		{"a key in rows that cancel", zset(entry(-1, 1, 0), entry(1, 1, 1)), 1, a[:2], a[2:]},
		{"the whole width", zset(entry(1, 1, 6), entry(1, 2, 6)), 2, a[1:2], zset(a[0], a[2])},
		{"wider rows", zset(entry(1, 1, 6, 0, 0, 0, 0), entry(1, 2, 6, 0, 0, 0, 0)), 2, a[1:2], zset(a[0], a[2])},
		{"all keys", numbered(1, impl.MaxEntries, 1), 1, a, nil},
		{"no common key", numbered(5, 9, 1), 1, nil, a},
		{"b is empty", nil, 1, nil, a},
		{"b is empty and the key is the whole width", []impl.Entry{}, 2, nil, a},
		{"b is empty and the key is too long", nil, 3, nil, nil},
		{"b is too narrow", zset(entry(1, 1)), 2, nil, nil},
		{"b is too narrow and negative", zset(entry(-1, 1)), 2, nil, nil},
		{"no key", zset(entry(1, 1)), 0, nil, nil},
		{"no key and b is empty", nil, 0, nil, nil},
	}
	for _, c := range cases {
		expectZSet(t, "SemiJoin: "+c.name, impl.SemiJoin(a, c.b, c.k), c.semi)
		expectZSet(t, "AntiJoin: "+c.name, impl.AntiJoin(a, c.b, c.k), c.not)
		expectZSet(t, "SemiJoin of nothing: "+c.name, impl.SemiJoin(nil, c.b, c.k), nil)
		expectZSet(t, "AntiJoin of nothing: "+c.name, impl.AntiJoin(nil, c.b, c.k), nil)
	}
	most := numbered(1, impl.MaxEntries, impl.MaxWeight)
	expectZSet(t, "SemiJoin of the most entries", impl.SemiJoin(most, most, 1), most)
	expectZSet(t, "AntiJoin of the most entries", impl.AntiJoin(most, nil, 1), most)
	widest := zset(entry(1, repeated(impl.MaxWidth, 9)...))
	expectZSet(t, "SemiJoin of the widest row", impl.SemiJoin(widest, widest, impl.MaxWidth), widest)
}

func TestP34InvalidArguments(t *testing.T) {
	one, pair := zset(entry(1, 1)), zset(entry(1, 1, 2))
	for name, z := range invalidZSets() {
		expectZSet(t, "SemiJoin, a: "+name, impl.SemiJoin(z, one, 1), nil)
		expectZSet(t, "AntiJoin, a: "+name, impl.AntiJoin(z, one, 1), nil)
		expectZSet(t, "AntiJoin with nothing, a: "+name, impl.AntiJoin(z, nil, 1), nil)
		expectZSet(t, "SemiJoin, b: "+name, impl.SemiJoin(one, z, 1), nil)
		expectZSet(t, "AntiJoin, b: "+name, impl.AntiJoin(one, z, 1), nil)
		expectZSet(t, "AntiJoin without a common key, b: "+name, impl.AntiJoin(zset(entry(1, 77)), z, 1), nil)
	}
	for _, k := range append(badNumbersOfColumns(2), 0) {
		expectZSet(t, fmt.Sprint("SemiJoin on ", k), impl.SemiJoin(pair, pair, k), nil)
		expectZSet(t, fmt.Sprint("AntiJoin on ", k), impl.AntiJoin(pair, zset(entry(1, 3, 4)), k), nil)
	}
}

func TestP35ASemijoinDoesNotChangeAJoin(t *testing.T) {
	r := newRandom()
	for range 300 {
		widthA, widthB := between(r, 1, 3), between(r, 1, 3)
		a, b := randomZSet(r, widthA), impl.Distinct(randomZSet(r, widthB))
		if widthB <= widthA {
			expectZSet(t, "Join with a set of keys", impl.Join(a, b, widthB), impl.SemiJoin(a, b, widthB))
		}
		for k := 1; k <= min(widthA, widthB); k++ {
			expectZSet(t, "Join with Keys", impl.Join(a, impl.Keys(b, k), k), impl.SemiJoin(a, b, k))
			expectZSet(t, "Join of SemiJoin", impl.Join(impl.SemiJoin(a, b, k), b, k), impl.Join(a, b, k))
		}
	}
}

func TestJoinFunctionsReturnNewMemory(t *testing.T) {
	a := zset(entry(2, 1, 2), entry(-2, 1, 3), entry(3, 5, 0))
	b := zset(entry(1, 1, 7), entry(3, 1, 8), entry(4, 5, 9))
	for k := range 2 {
		expectFresh(t, "Join", impl.Join, a, b, k)
	}
	expectFresh(t, "Join on the whole width", impl.Join, a, a, 2)
	expectFresh(t, "Keys", impl.Keys, a, 1)
	expectFresh(t, "Keys of the whole width", impl.Keys, b, 2)
	expectFresh(t, "SemiJoin", impl.SemiJoin, a, b[:2], 1)
	expectFresh(t, "SemiJoin that keeps all", impl.SemiJoin, a, b, 1)
	expectFresh(t, "AntiJoin", impl.AntiJoin, a, b[:2], 1)
	expectFresh(t, "AntiJoin with nothing", impl.AntiJoin, a, nil, 1)
}
