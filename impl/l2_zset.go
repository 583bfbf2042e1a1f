package impl

import "slices"

// Limits of Z-sets.
const (
	MaxEntries = 400
	MaxWeight  = 1000000
)

// Entry is a row with a weight.
type Entry struct {
	Row    []int
	Weight int
}

func (e Entry) compare(other Entry) int {
	return values(e.Row).compare(other.Row)
}

func (e Entry) plus(other Entry) Entry {
	return Entry{Row: e.Row, Weight: e.Weight + other.Weight}
}

func (e Entry) isZero() bool {
	return e.Weight == 0
}

func (e Entry) isSummand() bool {
	return ValidRow(e.Row) && isWithin(e.Weight, MaxWeight)
}

func (e Entry) row() []int {
	return e.Row
}

func (e Entry) withRow(row []int) Entry {
	return Entry{Row: row, Weight: e.Weight}
}

// summand is an element of a sum: elements that compare as 0 are added up, and those that are zero then are left out.
type summand[T any] interface {
	compare(other T) int
	plus(other T) T
	isZero() bool
}

// sumBuilder collects summands, which must be added in their order.
type sumBuilder[T summand[T]] struct {
	items []T
}

// add keeps an element whose sum is zero so far, because later summands may change the sum again.
func (b *sumBuilder[T]) add(item T) {
	last := len(b.items) - 1
	if last >= 0 && b.items[last].compare(item) == 0 {
		b.items[last] = b.items[last].plus(item)
		return
	}
	b.items = append(b.items, item)
}

func (b *sumBuilder[T]) addAll(items []T) {
	for _, item := range items {
		b.add(item)
	}
}

func (b *sumBuilder[T]) sum() []T {
	return slices.DeleteFunc(b.items, func(item T) bool { return item.isZero() })
}

// sumOfList adds up a list in any order.
func sumOfList[T summand[T]](list []T) []T {
	sorted := slices.Clone(list)
	slices.SortFunc(sorted, func(a T, b T) int { return a.compare(b) })
	var sums sumBuilder[T]
	sums.addAll(sorted)
	return sums.sum()
}

// sumOfSorted merges two lists that are in order, and adds them up.
func sumOfSorted[T summand[T]](a []T, b []T) []T {
	var sums sumBuilder[T]
	for len(a) > 0 && len(b) > 0 {
		if a[0].compare(b[0]) <= 0 {
			sums.add(a[0])
			a = a[1:]
		} else {
			sums.add(b[0])
			b = b[1:]
		}
	}
	sums.addAll(a)
	sums.addAll(b)
	return sums.sum()
}

// weighted is a summand that gives a row a weight: an entry or an update.
type weighted[T any] interface {
	summand[T]
	isSummand() bool
	row() []int
	withRow(row []int) T
}

// areSummands reports whether there are not too many items, each of which is valid in a list to be added up.
func areSummands[T weighted[T]](items []T, limit int) bool {
	if len(items) > limit {
		return false
	}
	for _, item := range items {
		if !item.isSummand() {
			return false
		}
	}
	return true
}

// isSum reports whether items are ascending, all of the same width, and none of them zero.
func isSum[T weighted[T]](items []T) bool {
	for i, item := range items {
		if item.isZero() || len(item.row()) != widthOf(items) {
			return false
		}
		if i > 0 && items[i-1].compare(item) >= 0 {
			return false
		}
	}
	return true
}

// widthOf returns 0 for no items, which have no width: this is not a valid width anywhere.
func widthOf[T weighted[T]](items []T) int {
	if len(items) == 0 {
		return 0
	}
	return len(items[0].row())
}

// copyItems copies the rows, too, because a result shares no memory with an argument.
func copyItems[T weighted[T]](items []T) []T {
	copied := make([]T, len(items))
	for i, item := range items {
		copied[i] = item.withRow(slices.Clone(item.row()))
	}
	return copied
}

// ValidZSet reports whether entries are a Z-set.
func ValidZSet(z []Entry) bool {
	return areSummands(z, MaxEntries) && isSum(z)
}

// copyZSet returns the empty Z-set for what is not a Z-set, as every function that returns one must.
func copyZSet(entries []Entry) []Entry {
	if !ValidZSet(entries) {
		return nil
	}
	return copyItems(entries)
}

// Normalize adds the weights of equal rows.
func Normalize(entries []Entry) []Entry {
	if !areSummands(entries, MaxEntries) {
		return nil
	}
	return copyZSet(sumOfList(entries))
}

// Add returns the sum of two Z-sets.
func Add(a []Entry, b []Entry) []Entry {
	if !ValidZSet(a) || !ValidZSet(b) {
		return nil
	}
	return copyZSet(sumOfSorted(a, b))
}

// Negate returns a Z-set with negated weights.
func Negate(z []Entry) []Entry {
	negated := copyZSet(z)
	for i := range negated {
		negated[i].Weight = -negated[i].Weight
	}
	return negated
}

// WeightOf returns the weight of a row.
func WeightOf(z []Entry, row []int) int {
	if !ValidZSet(z) {
		return 0
	}
	for _, e := range z {
		if values(e.Row).compare(row) == 0 {
			return e.Weight
		}
	}
	return 0
}

// Distinct returns the set of the rows with positive weight.
func Distinct(z []Entry) []Entry {
	if !ValidZSet(z) {
		return nil
	}
	return copyItems(positiveRows(z))
}

// positiveRows gives the rows with positive weight, which may be out of range, the weight 1, without copying them.
func positiveRows(entries []Entry) []Entry {
	var set []Entry
	for _, e := range entries {
		if e.Weight > 0 {
			set = append(set, Entry{Row: e.Row, Weight: 1})
		}
	}
	return set
}

// IsSet reports whether all weights are 1.
func IsSet(z []Entry) bool {
	for _, e := range z {
		if e.Weight != 1 {
			return false
		}
	}
	return ValidZSet(z)
}

// TotalWeight returns the sum of all weights.
func TotalWeight(z []Entry) int {
	if !ValidZSet(z) {
		return 0
	}
	total := 0
	for _, e := range z {
		total += e.Weight
	}
	return total
}
