package tests

import (
	"math"
	"slices"
	"strconv"
	"strings"
	"testing"

	"loop.example/dataflow/impl"
)

func TestLimitsOfRows(t *testing.T) {
	if impl.MaxWidth != 6 || impl.MaxValue != 9999 {
		t.Errorf("MaxWidth = %d, MaxValue = %d", impl.MaxWidth, impl.MaxValue)
	}
	for _, row := range validRows() {
		expectBool(t, "ValidRow("+strings.Join(texts(row), " ")+")", impl.ValidRow(row), true)
	}
	for name, row := range invalidRows() {
		expectBool(t, "ValidRow of a row that is "+name, impl.ValidRow(row), false)
	}
	// Every position of a row is checked.
	for width := 1; width <= impl.MaxWidth; width++ {
		for col := range width {
			for _, value := range []int{impl.MaxValue + 1, -impl.MaxValue - 1} {
				row := repeated(width, impl.MaxValue)
				row[col] = value
				expectBool(t, "ValidRow with one value out of range", impl.ValidRow(row), false)
			}
		}
	}
}

// validRows has rows of all widths, with the extreme values.
func validRows() [][]int {
	rows := [][]int{{0}, {7}, {-7}, {10, 100}, {100, 10}, {1, -2, 30}, {0, 0}, {-1, 0, 1}}
	for width := 1; width <= impl.MaxWidth; width++ {
		rows = append(rows, repeated(width, impl.MaxValue), repeated(width, -impl.MaxValue), repeated(width, width))
	}
	r := newRandom()
	for range 200 {
		rows = append(rows, randomList(r, between(r, 1, impl.MaxWidth), impl.MaxValue))
	}
	return rows
}

func texts(row []int) []string {
	var words []string
	for _, value := range row {
		words = append(words, strconv.Itoa(value))
	}
	return words
}

func TestP01RowsAreTotallyOrdered(t *testing.T) {
	ascending := [][]int{
		{}, {math.MinInt}, {math.MinInt, 3}, {-10000}, {-2}, {-1, 5}, {0}, {0, -1}, {0, 0}, {0, 0, -9}, {0, 1},
		{1}, {1, -1}, {1, 2}, {1, 2, 3, 4, 5, 6}, {1, 2, 3, 4, 5, 6, 7}, {1, 2, 3, 4, 5, 6, 7, 8}, {1, 2, 4},
		{2}, {10}, {10, 0}, {9999}, {math.MaxInt - 1}, {math.MaxInt}, {math.MaxInt, math.MinInt},
	}
	for i, a := range ascending {
		for j, b := range ascending {
			if got := impl.RowLess(a, b); got != (i < j) {
				t.Errorf("RowLess(%v, %v) = %v", a, b, got)
			}
		}
	}
	if impl.RowLess(nil, []int{}) || impl.RowLess([]int{}, nil) || !impl.RowLess(nil, []int{0}) || impl.RowLess([]int{0}, nil) {
		t.Error("nil is not the empty list")
	}
}

func TestP01RowsSortBeforeTheirExtensions(t *testing.T) {
	for _, row := range validRows() {
		for _, value := range []int{math.MinInt, -1, 0, 1} {
			longer := append(slices.Clone(row), value)
			if !impl.RowLess(row, longer) || impl.RowLess(longer, row) || impl.RowLess(row, slices.Clone(row)) {
				t.Errorf("RowLess of %v and %v", row, longer)
			}
		}
	}
}

func TestP02DecodingARowInvertsEncoding(t *testing.T) {
	for _, row := range validRows() {
		s := impl.EncodeRow(row)
		if s != strings.Join(texts(row), ",") {
			t.Errorf("EncodeRow(%v) = %q", row, s)
		}
		if decoded, ok := impl.DecodeRow(s); !ok || !slices.Equal(decoded, row) {
			t.Errorf("DecodeRow(%q) = %v, %v", s, decoded, ok)
		}
	}
	for name, row := range invalidRows() {
		if s := impl.EncodeRow(row); s != "" {
			t.Errorf("EncodeRow of a row that is %s = %q", name, s)
		}
	}
}

func TestP03TheTextFormOfRowsIsCanonical(t *testing.T) {
	invalid := []string{
		"", ",", ",,", "1,", ",1", "1,,2", "01", "00", "-0", "-01", "+1", "+0", "-", "--1", "1-", " 1", "1 ", "1, 2", "1\n", "\t1",
		"10000", "-10000", "1,10000", "99999999999999999999", "-99999999999999999999", "9223372036854775808",
		"1,2,3,4,5,6,7", "1,2,3,4,5,6,", "1,2,3,4,5,6,x", "1,2,3,4,5,06", "0x1", "1_0", "1e2", "1.0", "1;2", "a", "\x00", "1\x00", "\xff",
		"\u0661", "\uff11", "\u22121", strings.Repeat("1,", 1000) + "1", strings.Repeat(",", 100000),
	}
	for _, s := range invalid {
		if row, ok := impl.DecodeRow(s); ok || len(row) != 0 {
			t.Errorf("DecodeRow(%q) = %v, %v", s, row, ok)
		}
	}
}

// Every short text is either the text of the row that is decoded, or rejected.
func TestP03ShortTextsAreCanonical(t *testing.T) {
	list := []string{""}
	for range 5 {
		var longer []string
		for _, s := range list {
			for _, c := range "-+,019 " {
				longer = append(longer, s+string(c))
			}
		}
		list = longer
		for _, s := range list {
			row, ok := impl.DecodeRow(s)
			if ok && (!impl.ValidRow(row) || impl.EncodeRow(row) != s || strings.Join(texts(row), ",") != s) {
				t.Fatalf("DecodeRow(%q) = %v", s, row)
			}
			if !ok && len(row) != 0 {
				t.Fatalf("DecodeRow(%q) fails with %v", s, row)
			}
		}
	}
}

func TestP04ProjectionsCanBeComposed(t *testing.T) {
	r := newRandom()
	for _, row := range validRows() {
		all := []int{0, 1, 2, 3, 4, 5}[:len(row)]
		if same, ok := impl.ProjectRow(row, all); !ok || !slices.Equal(same, row) {
			t.Errorf("ProjectRow(%v, %v) = %v, %v", row, all, same, ok)
		}
		first := randomColumns(r, len(row))
		second := randomColumns(r, len(first))
		once, ok := impl.ProjectRow(row, first)
		if !ok || !slices.Equal(once, picked(row, first)) {
			t.Errorf("ProjectRow(%v, %v) = %v, %v", row, first, once, ok)
		}
		twice, ok := impl.ProjectRow(once, second)
		composed, ok2 := impl.ProjectRow(row, picked(first, second))
		if !ok || !ok2 || !slices.Equal(twice, composed) {
			t.Errorf("ProjectRow of %v to %v and %v = %v, composed %v", row, first, second, twice, composed)
		}
	}
}

func randomColumns(r interface{ IntN(int) int }, width int) []int {
	cols := make([]int, 1+r.IntN(impl.MaxWidth))
	for i := range cols {
		cols[i] = r.IntN(width)
	}
	return cols
}

func picked(list []int, indices []int) []int {
	var out []int
	for _, i := range indices {
		out = append(out, list[i])
	}
	return out
}

// invalidColumns has a list for each way not to be valid for rows of width 2.
func invalidColumns() [][]int {
	return [][]int{nil, {}, {-1}, {2}, {0, 2}, {0, 1, -1}, {math.MaxInt}, {math.MinInt}, repeated(impl.MaxWidth+1, 0)}
}

func TestP04InvalidProjections(t *testing.T) {
	for _, cols := range invalidColumns() {
		if row, ok := impl.ProjectRow([]int{4, 5}, cols); ok || row != nil {
			t.Errorf("ProjectRow([4 5], %v) = %v, %v", cols, row, ok)
		}
	}
	for name, row := range invalidRows() {
		if projected, ok := impl.ProjectRow(row, []int{0}); ok || projected != nil {
			t.Errorf("ProjectRow of a row that is %s = %v, %v", name, projected, ok)
		}
	}
	widest := repeated(impl.MaxWidth, 1)
	if row, ok := impl.ProjectRow([]int{4, 5}, widest); !ok || !slices.Equal(row, repeated(impl.MaxWidth, 5)) {
		t.Errorf("ProjectRow([4 5], %v) = %v, %v", widest, row, ok)
	}
}

func TestRowFunctionsReturnNewMemory(t *testing.T) {
	expectFresh(t, "ProjectRow", impl.ProjectRow, []int{4, 5}, []int{0, 1})
	expectFresh(t, "DecodeRow", impl.DecodeRow, "1,2,3")
}
