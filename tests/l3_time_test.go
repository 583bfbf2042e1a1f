package tests

import (
	"math"
	"slices"
	"testing"

	"loop.example/dataflow/impl"
)

func TestLimitsOfTimes(t *testing.T) {
	if impl.MaxTime != 99 {
		t.Errorf("MaxTime = %d", impl.MaxTime)
	}
	for _, valid := range []impl.Time{{}, at(impl.MaxTime, 0), at(0, impl.MaxTime), at(impl.MaxTime, impl.MaxTime), at(3, 50)} {
		if !impl.ValidTime(valid) {
			t.Errorf("ValidTime(%v) = false", valid)
		}
	}
	for _, invalid := range invalidTimes() {
		if impl.ValidTime(invalid) {
			t.Errorf("ValidTime(%v) = true", invalid)
		}
	}
}

// anyTimes has valid and invalid times, because the order is defined for all.
func anyTimes() []impl.Time {
	times := append(grid(-1, 3), invalidTimes()...)
	for _, epoch := range []int{math.MinInt, 98, 99, 100, math.MaxInt} {
		for _, round := range []int{math.MinInt, 0, 99, 100, math.MaxInt} {
			times = append(times, at(epoch, round))
		}
	}
	return times
}

func TestP12TimesArePartiallyOrdered(t *testing.T) {
	for _, a := range anyTimes() {
		if !impl.TimeLessEqual(a, a) || impl.TimeBefore(a, a) {
			t.Errorf("%v is not equal to itself", a)
		}
		for _, b := range anyTimes() {
			if impl.TimeLessEqual(a, b) != below(a, b) {
				t.Errorf("TimeLessEqual(%v, %v) = %v", a, b, !below(a, b))
			}
			if a != b && impl.TimeLessEqual(a, b) && impl.TimeLessEqual(b, a) {
				t.Errorf("%v and %v are at most each other", a, b)
			}
			if a != b && impl.TimeLessEqual(a, b) && !impl.TimeBefore(a, b) {
				t.Errorf("%v is at most %v, but does not sort before it", a, b)
			}
		}
	}
}

func TestP12TimesSortByEpochThenRound(t *testing.T) {
	ascending := []impl.Time{
		at(math.MinInt, 9), at(-1, 5), at(0, math.MinInt), at(0, -1), at(0, 0), at(0, 1), at(0, 99), at(1, 0), at(1, 3),
		at(2, -4), at(2, 0), at(10, 0), at(99, 98), at(99, 99), at(100, 0), at(math.MaxInt, math.MinInt), at(math.MaxInt, math.MaxInt),
	}
	for i, a := range ascending {
		for j, b := range ascending {
			if got := impl.TimeBefore(a, b); got != (i < j) {
				t.Errorf("TimeBefore(%v, %v) = %v", a, b, got)
			}
		}
	}
}

func TestP13TimesAreALattice(t *testing.T) {
	times := anyTimes()
	for _, a := range times {
		for _, b := range times {
			join, meet := impl.TimeJoin(a, b), impl.TimeMeet(a, b)
			if !below(a, join) || !below(b, join) || !below(meet, a) || !below(meet, b) {
				t.Fatalf("TimeJoin(%v, %v) = %v, TimeMeet = %v", a, b, join, meet)
			}
			for _, c := range times {
				if below(a, c) && below(b, c) && !below(join, c) || below(c, a) && below(c, b) && !below(c, meet) {
					t.Fatalf("TimeJoin(%v, %v) = %v, TimeMeet = %v, but %v is closer", a, b, join, meet, c)
				}
			}
			if impl.TimeJoin(a, meet) != a || impl.TimeMeet(a, join) != a {
				t.Errorf("%v and %v are not absorbed", a, b)
			}
			if impl.TimeJoin(b, a) != join || impl.TimeMeet(b, a) != meet {
				t.Errorf("TimeJoin or TimeMeet of %v and %v depends on their order", a, b)
			}
		}
	}
	if !slices.Contains(times, at(math.MaxInt, math.MinInt)) {
		t.Error("the extreme times are missing")
	}
}

func TestP13JoinAndMeetAreComponentwise(t *testing.T) {
	a, b := at(1, 7), at(3, 2)
	if join := impl.TimeJoin(a, b); join != at(3, 7) {
		t.Errorf("TimeJoin(%v, %v) = %v", a, b, join)
	}
	if meet := impl.TimeMeet(a, b); meet != at(1, 2) {
		t.Errorf("TimeMeet(%v, %v) = %v", a, b, meet)
	}
	if join := impl.TimeJoin(at(-5, 200), at(-6, 300)); join != at(-5, 300) {
		t.Errorf("TimeJoin of invalid times = %v", join)
	}
	if meet := impl.TimeMeet(at(-5, 200), at(-6, 300)); meet != at(-6, 200) {
		t.Errorf("TimeMeet of invalid times = %v", meet)
	}
}
