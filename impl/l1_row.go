package impl

import (
	"slices"
	"strconv"
	"strings"
)

// Limits of rows.
const (
	MaxWidth = 6
	MaxValue = 9999
)

// values is a list of values, which need not be a row: the order is defined for all lists.
type values []int

func (v values) compare(other values) int {
	return slices.Compare(v, other)
}

func (v values) isRow() bool {
	if len(v) < 1 || len(v) > MaxWidth {
		return false
	}
	for _, value := range v {
		if !isWithin(value, MaxValue) {
			return false
		}
	}
	return true
}

// isWithin compares with both bounds because the smallest int has no absolute value.
func isWithin(number int, limit int) bool {
	return -limit <= number && number <= limit
}

func isUpTo(number int, limit int) bool {
	return 0 <= number && number <= limit
}

// ValidRow reports whether a row is valid.
func ValidRow(row []int) bool {
	return values(row).isRow()
}

// RowLess reports whether a sorts before b.
func RowLess(a []int, b []int) bool {
	return values(a).compare(b) < 0
}

// EncodeRow returns the values separated by commas.
func EncodeRow(row []int) string {
	if !ValidRow(row) {
		return ""
	}
	words := make([]string, len(row))
	for i, value := range row {
		words[i] = strconv.Itoa(value)
	}
	return strings.Join(words, ",")
}

// DecodeRow inverts EncodeRow.
func DecodeRow(s string) ([]int, bool) {
	// One word more than a row can have is enough to reject a longer text.
	words := strings.SplitN(s, ",", MaxWidth+1)
	row := make([]int, len(words))
	for i, word := range words {
		value, ok := parseNumber(word)
		if !ok {
			return nil, false
		}
		row[i] = value
	}
	if !ValidRow(row) {
		return nil, false
	}
	return row, true
}

// parseNumber writes the number again because strconv.Atoi also accepts other forms, such as +1, 01 and -0.
func parseNumber(word string) (int, bool) {
	number, err := strconv.Atoi(word)
	if err != nil || strconv.Itoa(number) != word {
		return 0, false
	}
	return number, true
}

// ProjectRow returns the values of the given columns.
func ProjectRow(row []int, cols []int) ([]int, bool) {
	if !ValidRow(row) || !areColumns(cols, len(row)) {
		return nil, false
	}
	projected := make([]int, len(cols))
	for i, col := range cols {
		projected[i] = row[col]
	}
	return projected, true
}

// areColumns reports whether rows of a width can be projected to the columns.
func areColumns(cols []int, width int) bool {
	if len(cols) < 1 || len(cols) > MaxWidth {
		return false
	}
	for _, col := range cols {
		if col < 0 || col >= width {
			return false
		}
	}
	return true
}
