package impl

import (
	"iter"
	"slices"
)

// MaxFrontier is the maximum number of elements of a frontier.
const MaxFrontier = 100

// antichain is a list of times in ascending order none of which is at most another one.
type antichain []Time

// isFrontier compares neighbours only: their epochs ascend and their rounds descend,
// so this holds for any two elements, and none is at most another one.
func (c antichain) isFrontier() bool {
	if len(c) > MaxFrontier {
		return false
	}
	for i, t := range c {
		if !t.isValid() {
			return false
		}
		if i > 0 && (c[i-1].Epoch >= t.Epoch || c[i-1].Round <= t.Round) {
			return false
		}
	}
	return true
}

func (c antichain) covers(t Time) bool {
	for _, e := range c {
		if e.lessEqual(t) {
			return true
		}
	}
	return false
}

// insert adds t unless it is covered, and then removes what t covers, so that the list stays an antichain.
func (c *antichain) insert(t Time) {
	if c.covers(t) {
		return
	}
	kept := slices.DeleteFunc(*c, t.lessEqual)
	place := 0
	for place < len(kept) && kept[place].before(t) {
		place++
	}
	*c = slices.Insert(kept, place, t)
}

// joins yields the join of each pair: both antichains cover a time exactly if one of the joins is at most it.
func (c antichain) joins(other antichain) iter.Seq[Time] {
	return func(yield func(Time) bool) {
		for _, a := range c {
			for _, b := range other {
				if !yield(a.join(b)) {
					return
				}
			}
		}
	}
}

func minimalOf(times iter.Seq[Time]) antichain {
	var minimal antichain
	for t := range times {
		minimal.insert(t)
	}
	return minimal
}

// ValidFrontier reports whether times are an antichain in order.
func ValidFrontier(f []Time) bool {
	return antichain(f).isFrontier()
}

// MinimalTimes returns the frontier of the minimal elements of a list.
func MinimalTimes(list []Time) []Time {
	if len(list) > MaxUpdates {
		return nil
	}
	for _, t := range list {
		if !t.isValid() {
			return nil
		}
	}
	// There are no more than MaxFrontier of them: they have different epochs.
	return minimalOf(slices.Values(list))
}

// FrontierCovers reports whether some element of the frontier is at most t.
func FrontierCovers(f []Time, t Time) bool {
	return ValidFrontier(f) && t.isValid() && antichain(f).covers(t)
}

// FrontierLessEqual reports whether f covers every element of g.
func FrontierLessEqual(f []Time, g []Time) bool {
	if !ValidFrontier(f) || !ValidFrontier(g) {
		return false
	}
	for _, t := range g {
		if !antichain(f).covers(t) {
			return false
		}
	}
	return true
}

// FrontierJoin returns the frontier of the times that both frontiers cover.
func FrontierJoin(f []Time, g []Time) []Time {
	if !ValidFrontier(f) || !ValidFrontier(g) {
		return nil
	}
	return minimalOf(antichain(f).joins(g))
}

// FrontierMeet returns the frontier of the times that one of the frontiers covers.
func FrontierMeet(f []Time, g []Time) []Time {
	if !ValidFrontier(f) || !ValidFrontier(g) {
		return nil
	}
	return minimalOf(slices.Values(slices.Concat(f, g)))
}

// AdvanceTime returns the latest time that is indistinguishable from t beyond f.
func AdvanceTime(t Time, f []Time) Time {
	if len(f) == 0 || !ValidFrontier(f) || !t.isValid() {
		return t
	}
	advanced := t.join(f[0])
	for _, e := range f[1:] {
		advanced = advanced.meet(t.join(e))
	}
	return advanced
}
